/- slices.Index, slices.Contains at elements; tree.Place -/
import Derived.Test.YtjkgmpohddcgpaaGreatDoorTPages
import Derived.Test.YtjkgmpohddcgpaaGreatDoorVEq
import Derived.BigQuiet
import Derived.Deep.QuietTactic
import Derived.Deep.RegionLaw
import Derived.Deep.DeepCutAuto
import Derived.Lib.QuietBelow
namespace Go.Proofs.YtjkgmpohddcgpaaGreatDoor
open Go.RowKit Go.Lib

set_option maxRecDepth 100000 in
set_option maxHeartbeats 2000000 in
theorem Index_any (a : Option Addr) (cap : Nat) (l : List El) (e : El) (w : World) (h : ElemsAt w a l) (hl : l.length ≤ 1000000) :
    Calls Tryz.prog 54 #[.slice a l.length cap, e.v] w (IntB (atI l e) w) := by
  have HH := Lib.hid h
  obtain ⟨n, hn⟩ : ∃ n, l.length = n := ⟨_, rfl⟩
  have HN := Lib.hid hn
  have HA := Lib.hid (fun k hk hall => atI_at (l := l) (e := e) (k := k) hk hall)
  have HNO := Lib.hid (fun hall => atI_no (l := l) (e := e) hall)
  rw [hn] at hl ⊢
  have hbx := BoxE.new w e
  have HB0 : RowKit.Hid (Below w.heap.size w (w.alloc (.cells #[.int .i64 e.s, .int .i64 e.q, .int .i64 e.i] 43))) := Lib.hid ((Below.refl _ _).alloc (Nat.le_refl _) _)
  have HBX := Lib.hid hbx
  clear h hn hbx
  obtain ⟨s, q, i⟩ := e
  unfold El.v
  simp only at HB0 HBX ⊢
  generalize atI l ⟨s, q, i⟩ = z at *
  go_enter Tryz.func54, Tryz.ntmps54
  go_wp2_with fail
  go_loopw [8] (fun s8 wr => ∃ k : Nat, s8 = .int .i64 k ∧ k ≤ n ∧ Below w.heap.size w wr ∧ BoxE wr w.heap.size ⟨s, q, i⟩ ∧ ∀ j x, j < k → l[j]? = some x → x ≠ ⟨s, q, i⟩) (fun s8 _ => n - (RowKit.intOf s8).toNat)
  case atStart => exact ⟨0, rfl, Nat.zero_le _, HB0.out, HBX.out, fun j x hj => absurd hj (by omega)⟩
  case round =>
    clear HB0 HBX
    obtain ⟨k, rfl, hk, hb, hbx, hall⟩ := hrel
    have HALL := Lib.hid hall
    have HBX := Lib.hid hbx
    have HB := Lib.hid hb
    clear hall
    by_cases hlt : k < n
    · have hkl : k < l.length := by rw [HN.out]; exact hlt
      obtain ⟨b, off, rfl, hbb, x0, x1, x2⟩ := (HH.out.below hb).cell k hkl
      have y0 := hbx.c0
      have y1 := hbx.c1
      have y2 := hbx.c2
      have hyl := hbx.lt
      have HG := Lib.hid (show l[k]? = some l[k] from List.getElem?_eq_getElem hkl)
      clear hb hbx
      generalize l[k] = x at *
      clear hkl
      have hsp := el_split ⟨s, q, i⟩ x
      obtain ⟨xs, xq, xi⟩ := x
      simp only at x0 x1 x2 hsp
      rcases hsp with ⟨he, z0, z1, z2⟩ | ⟨hne, hz⟩
      · have HZ := Lib.hid (HA.out k (by rw [HG.out, he]) HALL.out)
        clear he
        subst z0
        subst z1
        subst z2
        go_wp2_with fail
        go_quiet (fail)
        go_wp2
        go_ret
        exact ⟨ret_int HZ.out.symm, HB.out.trans ((Same.drewN wr nq).below _)⟩
      · have HNE := Lib.hid hne
        clear hne
        rcases hz with z0 | ⟨z0, z1⟩ | ⟨z0, z1, z2⟩
        all_goals
          try subst z0
          try subst z1
          go_wp2_with fail
          go_quiet (fail)
          go_wp2
          go_roundw
          case rel => exact ⟨k + 1, by go_num, by omega, HB.out.trans ((Same.drewN wr _).below _), HBX.out.next ((Same.drewN wr _).below wr.heap.size) HBX.out.lt, fun j x hj hx => by
            by_cases hjk : j = k
            · rw [hjk, HG.out] at hx; cases hx; exact fun h => HNE.out h.symm
            · exact HALL.out j x (by omega) hx⟩
          case measure => simp [RowKit.intOf]; omega
    · have HF := Lib.hid (HNO.out (fun j x hx => HALL.out j x (by have := (List.getElem?_eq_some_iff.1 hx).1; rw [HN.out] at this; omega) hx))
      clear hb hbx
      go_wp2
      go_ret
      exact ⟨ret_int HF.out.symm, HB.out⟩
theorem Contains_any (a : Option Addr) (cap : Nat) (l : List El) (e : El) (w : World) (h : ElemsAt w a l) (hl : l.length ≤ 1000000) :
    Calls Tryz.prog 56 #[.slice a l.length cap, e.v] w (BoB (decide (e ∈ l)) w) := by
  have HI := Lib.hid (fun wx (hx : Below w.heap.size w wx) => Index_any a cap l e wx (h.below hx) hl)
  have HX := Lib.hid (BoxE.new w e)
  have HB0 : RowKit.Hid (Below w.heap.size w (w.alloc (.cells #[.int .i64 e.s, .int .i64 e.q, .int .i64 e.i] 43))) := Lib.hid ((Below.refl _ _).alloc (Nat.le_refl _) _)
  have hle := atI_le (l := l) (e := e)
  have HD : RowKit.Hid (decide (e ∈ l) = decide (0 ≤ atI l e)) := Lib.hid (by
    rw [decide_eq_decide]
    constructor
    · exact atI_pos
    · intro h2
      by_cases hm : e ∈ l
      · exact hm
      · rw [atI_neg hm] at h2; omega)
  obtain ⟨n, hn⟩ : ∃ n, l.length = n := ⟨_, rfl⟩
  rw [hn] at HI hle hl ⊢
  clear h hn
  obtain ⟨s, q, i⟩ := e
  unfold El.v at HI ⊢
  simp only at HI HX HB0 hle HD ⊢
  generalize atI l ⟨s, q, i⟩ = z at *
  go_enter Tryz.func56, Tryz.ntmps56
  go_wp2_with (first
    | (go_at_call 54; refine (HI.out _ HB0.out).mono ?_; rintro x1 w1 ⟨rfl, hb1⟩; have HB1 := Lib.hid (HB0.out.trans (hb1.mono HB0.out.size)); clear hb1)
    | fail)
  go_ret
  exact ⟨ret_bool HD.out.symm, HB1.out⟩

def PlacePost (n e : Int) (w : World) (x : Ending) (w' : World) : Prop := x = .returned (.tuple #[.int .i64 n, .int .i64 e]) ∧ Below w.heap.size w w'
set_option maxRecDepth 100000 in
set_option maxHeartbeats 2000000 in
/-- the place of what is written -/
theorem tPlace_at (a : Option Addr) (cap : Nat) (l : List OpR) (e : El) (w : World) (h : OpsAt w a l) (hr : rowP (OpR.os l)) (hm : e ∈ ordE (OpR.os l)) : Calls Tryz.prog 19 #[.slice a l.length cap, e.v] w (PlacePost (atI (ordE (OpR.os l)) e) 0 w) := by
  have HO := Lib.hid (fun wx (hx : Below w.heap.size w wx) => tOrder_ok a cap l wx (h.below hx) hr)
  have hol : (ordE (OpR.os l)).length ≤ 200 := by
    have h1 := row_inv hr.2 (OpR.os l).length (Nat.le_refl _)
    rw [List.take_length] at h1
    unfold ordE
    rw [List.length_map, h1.len]
    exact row_tot hr.2
  have HX := Lib.hid (BoxE.new w e)
  have HB0 : RowKit.Hid (Below w.heap.size w (w.alloc (.cells #[.int .i64 e.s, .int .i64 e.q, .int .i64 e.i] 43))) := Lib.hid ((Below.refl _ _).alloc (Nat.le_refl _) _)
  have hz0 := atI_pos hm
  have hz1 := atI_le (l := ordE (OpR.os l)) (e := e)
  unfold OrdPost at HO
  obtain ⟨n, hn⟩ : ∃ n, l.length = n := ⟨_, rfl⟩
  rw [hn] at HO ⊢
  clear h hn hm hr
  generalize ordE (OpR.os l) = X at *
  have HIX := Lib.hid (fun (b : Option Addr) (c : Nat) wx (hx : ElemsAt wx b X) => Index_any b c X e wx hx (by omega))
  obtain ⟨m, hm⟩ : ∃ m, X.length = m := ⟨_, rfl⟩
  have HM := Lib.hid hm
  rw [hm] at HO HIX hz1 hol
  clear hm
  obtain ⟨s, q, i⟩ := e
  unfold El.v at HIX ⊢
  simp only at HX HB0 HIX hz0 hz1 ⊢
  generalize atI X ⟨s, q, i⟩ = z at *
  go_enter Tryz.func19, Tryz.ntmps19
  go_wp2_with (first
    | (go_at_call 13; refine (HO.out _ HB0.out).mono ?_; rintro x1 w1 ⟨v1, rfl, hown1, hb1⟩; obtain ⟨ax, cx, hv1, hex, _⟩ := elems_own (by rw [HM.out]; exact hown1); have HEX := Lib.hid hex; rw [HM.out] at hv1; subst hv1; have HB1 := Lib.hid (HB0.out.trans (hb1.mono HB0.out.size)); have hx1 := HX.out.step hb1; have p0 := hx1.c0; have p1 := hx1.c1; have p2 := hx1.c2; have hlt := hx1.lt; simp only at p0 p1 p2; clear hb1 hown1 hex hx1)
    | (go_at_call 54; refine (HIX.out _ _ _ HEX.out).mono ?_; rintro x2 w2 ⟨rfl, hb2⟩; have HB2 := Lib.hid (HB1.out.trans (hb2.mono HB1.out.size)); clear hb2)
    | fail)
  go_ret2
  exact ⟨rfl, HB2.out⟩
end Go.Proofs.YtjkgmpohddcgpaaGreatDoor
/- tree.inOrder, tree.Under -/
namespace Go.Proofs.YtjkgmpohddcgpaaGreatDoor
open Go.RowKit Go.Lib

/-- the later ones first -/
def Desc (S : List Nd) : Prop := S.Pairwise (fun a b => b.op < a.op)
theorem kids_desc {D : List Tn} (h : TOrd D) (e : El) : Desc (kids D e) := by
  have h1 : D.Pairwise (fun a b => a.par = e → b.par = e → b.nd.op < a.nd.op) := by
    rw [List.pairwise_iff_getElem]
    intro i j hi hj hij hpi hpj
    have g1 : D[i]? = some D[i] := List.getElem?_eq_getElem hi
    have g2 : D[j]? = some D[j] := List.getElem?_eq_getElem hj
    have hs := h.par i _ g1
    rw [hpi, ← hpj] at hs
    exact h.ahead i _ g1 j _ hij g2 hs
  unfold Desc kids
  rw [List.pairwise_map]
  refine List.Pairwise.imp_of_mem ?_ (h1.filter (fun t => decide (t.par = e)))
  intro a b ha hb hab
  have h2 := of_decide_eq_true (List.mem_filter.1 ha).2
  have h3 := of_decide_eq_true (List.mem_filter.1 hb).2
  exact hab h2 h3
theorem desc_step {S : List Nd} (hS : Desc S) {m : Nat} {t : Nd} (ht : S[m]? = some t) {x : Nd} {L2 : List Nd} (hp : (x :: L2).Perm (S.drop m)) (hmax : ∀ y ∈ L2, y.op ≤ x.op) : x = t ∧ L2.Perm (S.drop (m + 1)) := by
  obtain ⟨hm, hte⟩ := List.getElem?_eq_some_iff.1 ht
  have hdrop : S.drop m = t :: S.drop (m + 1) := by rw [List.drop_eq_getElem_cons hm, hte]
  have hlt : ∀ y ∈ S.drop (m + 1), y.op < t.op := by
    have h2 : Desc (S.drop m) := List.Pairwise.sublist (List.drop_sublist _ _) hS
    rw [hdrop] at h2
    exact (List.pairwise_cons.1 h2).1
  rw [hdrop] at hp
  have hx : x = t := by
    rcases List.mem_cons.1 (hp.subset (List.mem_cons_self ..)) with e | hxR
    · exact e
    · have h4 := hlt x hxR
      rcases List.mem_cons.1 (hp.symm.subset (List.mem_cons_self ..)) with e | htL
      · exact e.symm
      · have := hmax _ htL
        omega
  subst hx
  exact ⟨rfl, List.Perm.cons_inv hp⟩
/-- behind m: the front, and what was told -/
def ISt (S : List Nd) (base : Nat) (w wr : World) (m : Nat) (lv : Value) : Prop :=
  ∃ v L, Fr wr base base v L ∧ HeapN L L.length ∧ L.Perm (S.drop m) ∧ wr.ownsRow base 43 3 lv m (ecs ((S.take m).map Nd.e)) ∧ Apart lv base v ∧ Below base w wr ∧ base ≤ wr.heap.size
theorem i_start {S : List Nd} {base : Nat} {w w1 w2 : World} {L2 : List Nd} (hb : Below base w w1) (hs : w.heap.size = base) (hto : FrTo base base w1 (.slice none 0 0) L2 w2) (hp : L2.Perm S) (hh : HeapN L2 L2.length) : ISt S base w w2 0 (.slice none 0 0) := by
  have hs1 : base ≤ w1.heap.size := by have := hb.size; omega
  obtain ⟨v2, h1, h2, h3, h4⟩ := front_keeps (World.ownsRow_nil w1 base 43 3) (Apart.nil base (.slice none 0 0)) hto (Nat.le_refl _) (fun g h => absurd h (by simp [Value.ownBlock])) hs1
  exact ⟨v2, L2, h1, hh, hp, h2, h3, hb.trans h4, by have := h4.size; omega⟩
theorem i_len {S : List Nd} {base : Nat} {w wr : World} {m : Nat} {lv : Value} (h : ISt S base w wr m lv) : lenOf lv = m := by
  obtain ⟨v, L, _, _, _, ho, _⟩ := h
  rcases ho.2 with ⟨hv, h0⟩ | ⟨g, cap, cur, hv, _⟩
  · rw [hv, h0]; rfl
  · rw [hv]; rfl
theorem i_first {S : List Nd} {base : Nat} {w wr w1 w2 : World} {m : Nat} {lv v : Value} {L L2 : List Nd} {x t : Nd} (hD : Desc S) (ht : S[m]? = some t) (hf : Fr wr base base v L) (ho : wr.ownsRow base 43 3 lv m (ecs ((S.take m).map Nd.e))) (hap : Apart lv base v) (hb : Below base w wr) (hbs : base ≤ wr.heap.size)
    (hs : Same wr w1) (hto : FrTo base base w1 v L2 w2) (hp : (x :: L2).Perm (S.drop m)) (hmax : ∀ y ∈ L2, y.op ≤ x.op) :
    x = t ∧ L2.Perm (S.drop (m + 1)) ∧ ∃ v2, Fr w2 base base v2 L2 ∧ w2.ownsRow base 43 3 lv m (ecs ((S.take m).map Nd.e)) ∧ Apart lv base v2 ∧ Below base w w2 ∧ base ≤ w2.heap.size := by
  obtain ⟨hx, hpp⟩ := desc_step hD ht hp hmax
  obtain ⟨v2, h1, h2, h3, h4⟩ := front_keeps (hs.owns ho) hap hto (Nat.le_refl _) (fun g hg => (hf.own.lt g hg).1) (by rw [hs.heap]; exact hbs)
  exact ⟨hx, hpp, v2, h1, h2, h3, (hb.trans (hs.below base)).trans h4, by have := h4.size; rw [hs.heap] at this; omega⟩
theorem i_take {S : List Nd} {m : Nat} {t : Nd} (ht : S[m]? = some t) : ecs ((S.take (m + 1)).map Nd.e) = ecs ((S.take m).map Nd.e) ++ El.cs t.e := by
  obtain ⟨h1, h2⟩ := List.getElem?_eq_some_iff.1 ht
  rw [List.take_succ_eq_append_getElem h1, List.map_append, ecs_append, h2]
  simp [ecs]
theorem i_next {S : List Nd} {base m : Nat} {w w2 w8 : World} {lv v8 v2 : Value} {L2 : List Nd} {o : Obj} {e : El} (hmt : ecs ((S.take (m + 1)).map Nd.e) = ecs ((S.take m).map Nd.e) ++ El.cs e) (hp : L2.Perm (S.drop (m + 1))) (hh : HeapN L2 L2.length)
    (hf : Fr w2 base base v2 L2) (ho : w2.ownsRow base 43 3 lv m (ecs ((S.take m).map Nd.e))) (hap : Apart lv base v2) (hb : Below base w w2) (hbs : base ≤ w2.heap.size)
    (ho8 : w8.ownsRow base 43 3 v8 (m + 1) (ecs ((S.take m).map Nd.e) ++ El.cs e)) (hg : (w2.alloc o).grownBy w8 lv.ownBlock) (hat : v8.ownBlock = lv.ownBlock ∨ v8.ownBlock = some (w2.alloc o).heap.size) : ISt S base w w8 (m + 1) v8 := by
  obtain ⟨h1, h2⟩ := append_keeps (hf.alloc o) hg hap hat
  have hsz := hg.size
  have hs : (w2.alloc o).heap.size = w2.heap.size + 1 := by simp
  rw [← hmt] at ho8
  exact ⟨v2, L2, h1, hh, hp, ho8, h2, hb.trans (((Below.refl base w2).alloc hbs _).grown hg (by omega) (fun j hj => (ho.lt j hj).1)), by omega⟩
set_option maxRecDepth 100000 in
set_option maxHeartbeats 2000000 in
theorem xInOrder_any (a : Option Addr) (cap : Nat) (N S : List Nd) (w : World) (hn : NodesAt w w.heap.size a N) (hp : N.Perm S) (hS : Desc S) (hl : N.length ≤ 200) :
    Calls Tryz.prog 57 #[.slice a N.length cap] w (OwnPost (S.map Nd.e) w) := by
  obtain ⟨i0, hi0, hz0, hz1, hz2⟩ := info_parts Tryz.infoElem
  have HB0 : RowKit.Hid (Below w.heap.size w (w.alloc (.cells #[.slice none 0 0] 116))) := Lib.hid ((Below.refl _ _).alloc (Nat.le_refl _) _)
  have HC0 := Lib.hid (fHold_any w.heap.size w.heap.size (.slice none 0 0) [] N a cap _ (fr_new w) (fun i _ h => absurd h (by simp)) (hn.below HB0.out) (by simp only [List.length_nil]; omega))
  have hsl : S.length ≤ 200 := by rw [← hp.length_eq]; exact hl
  have HP := Lib.hid hp
  have HS := Lib.hid hS
  clear hn hp hS hl
  generalize hbase : w.heap.size = base at *
  have HBS := Lib.hid hbase
  generalize N.length = nl at *
  generalize hw1 : (w.alloc (.cells #[.slice none 0 0] 116)) = w1 at *
  go_enter Tryz.func57, Tryz.ntmps57
  go_wp2_with (first | (go_at_call 78; refine HC0.out.mono ?_; rintro x2 w2 ⟨rfl, L2, hto2, hp2, hh2⟩; have HS2 := Lib.hid (show ISt S base w w2 0 (.slice none 0 0) from i_start HB0.out HBS.out hto2 (hp2.trans HP.out) hh2); clear hto2 hp2 hh2) | fail)
  go_loopw [4] (fun s4 wr => ∃ m : Nat, m ≤ S.length ∧ ISt S base w wr m s4) (fun s4 _ => S.length - lenOf s4)
  case atStart => exact ⟨0, Nat.zero_le _, HS2.out⟩
  case round =>
    clear HS2 HC0 HP HB0 hw1
    obtain ⟨m, hm, hst⟩ := hrel
    have HLEN := Lib.hid (i_len hst)
    obtain ⟨v, L, hf, hh, hp, ho, hap, hb, hbs⟩ := hst
    have hpl := hp.length_eq
    rw [List.length_drop] at hpl
    have hL : L.length ≤ 200 := by omega
    have c0 := hf.cell
    obtain ⟨av, cv, rfl, _, _, _⟩ := hf.form
    have hFlt := hf.lt
    by_cases hlt : m < S.length
    · have hpos : (0 : Int) < (L.length : Int) := by omega
      obtain ⟨t, ht⟩ : ∃ t, S[m]? = some t := ⟨_, List.getElem?_eq_getElem hlt⟩
      have HT := Lib.hid ht
      have HMT := Lib.hid (i_take ht)
      have HF := Lib.hid hf
      have HO := Lib.hid ho
      have HAP := Lib.hid hap
      have HB := Lib.hid hb
      have HBB := Lib.hid hbs
      have HPP := Lib.hid hp
      have HC1 := Lib.hid (fun wx (hx : Fr wx base base (.slice av L.length cv) L) => fFirst_any base base (.slice av L.length cv) L wx hx hh (by omega) (by omega))
      have HM1 := Lib.hid (show m + 1 ≤ maxLen from by simp only [maxLen]; omega)
      have HM2 := Lib.hid (show (m + 1) * 24 ≤ 140737488355328 from by omega)
      clear hf ho hap hb hp hh ht hm hpl
      obtain ⟨⟨es, eq, ei⟩, op⟩ := t
      simp only at HMT
      generalize hk : L.length = k at *
      clear hk
      go_wp2_with (first
        | (go_at_call 79; refine (fLen_any _ k cv wr).mono ?_; rintro x1 w1 ⟨rfl, hs1⟩; have HS1 := Lib.hid hs1; have hc1 : w1.cell? ⟨base, 0, none⟩ = some (.slice av k cv) := (hs1.cell _).trans c0; clear hs1)
        | (go_at_call 80; refine (HC1.out w1 (HF.out.same HS1.out)).mono ?_; rintro x2 w2 ⟨x, L2, rfl, hto2, hp2, hmx2, hh2⟩; obtain ⟨rfl, hpp2, v2, hf2, ho2, hap2, hb2, hbs2⟩ := i_first HS.out HT.out HF.out HO.out HAP.out HB.out HBB.out HS1.out hto2 (hp2.trans HPP.out) hmx2; have HF2 := Lib.hid hf2; have HO2 := Lib.hid ho2; have HAP2 := Lib.hid hap2; have HB2 := Lib.hid hb2; have HBS2 := Lib.hid hbs2; have HPP2 := Lib.hid hpp2; have HH2 := Lib.hid hh2; clear hto2 hp2 hmx2 hh2 hpp2 hf2 ho2 hap2 hb2 hbs2; unfold El.v; simp only)
        | (at_builtin; refine wpList_append_own_at _ rfl _ _ 23 rfl base 43 i0 (.agg #[.int .i64 0, .int .i64 0, .int .i64 0]) 3 24 Tryz.underlying23 hi0 hz0 hz1 hz2 rfl (by decide) _ m _ rfl (HO2.out.alloc _) ⟨w2.heap.size, 0, none⟩ 1 1 (El.cs ⟨es, eq, ei⟩) rfl rfl (cell_three_new w2 ⟨es, eq, ei⟩ _) (cs_one ⟨es, eq, ei⟩) HM1.out HM2.out (by have := HBS2.out; simp; omega) ?_; intro v8 w8 hown8 hgrow8 hnil8 hat8; have HST8 := Lib.hid (i_next HMT.out HPP2.out HH2.out HF2.out HO2.out HAP2.out HB2.out HBS2.out hown8 hgrow8 hat8); clear hown8 hgrow8 hnil8 hat8)
        | fail)
      go_roundw
      case rel => exact ⟨m + 1, by omega, HST8.out⟩
      case measure =>
        have h1 := HLEN.out
        have h2 := i_len HST8.out
        simp
        rw [h1, h2]
        omega
    · have h0 : m = S.length := by omega
      have hL0 : L = [] := List.eq_nil_of_length_eq_zero (by omega)
      have HFIN := Lib.hid (show OwnPost (S.map Nd.e) w (.returned u4) wr from by
        rw [h0, List.take_length] at ho
        refine ⟨u4, rfl, ?_, ?_⟩
        · rw [List.length_map, HBS.out]; exact ho
        · rw [HBS.out]; exact hb)
      subst hL0
      clear hf ho hap hb hp hh hpl
      go_wp2_with (first
        | (go_at_call 79; refine (fLen_any _ 0 cv wr).mono ?_; rintro x1 w1 ⟨rfl, hs1⟩; have HS1 := Lib.hid hs1; clear hs1)
        | fail)
      go_ret
      exact own_same HFIN.out HS1.out
end Go.Proofs.YtjkgmpohddcgpaaGreatDoor
/- tree.Under -/
namespace Go.Proofs.YtjkgmpohddcgpaaGreatDoor
open Go.RowKit Go.Lib Go.Sort

theorem NodesAt.up {w : World} {base base' : Nat} {a : Option Addr} {l : List Nd} (h : NodesAt w base a l) (hb : base ≤ base') : NodesAt w base' a l :=
  ⟨fun j hj => by
    obtain ⟨b, off, h1, h2, h3⟩ := h.cell j hj
    exact ⟨b, off, h1, by omega, h3⟩⟩
theorem grp_below {w wr : World} {bm : Nat} {A : List Tn} (h : Grp w bm A) (hb : Below w.heap.size w wr) : Grp wr bm A := by
  obtain ⟨n, V, hM, h1, h2⟩ := h
  refine ⟨n, V, hM.kept (hb.block bm hM.lt), h1, fun e v hv => ?_⟩
  obtain ⟨a, cap, rfl, hn⟩ := h2 e v hv
  exact ⟨a, cap, rfl, (hn.below hb).up hb.size⟩
theorem drew_below {w w' : World} (h : Below w.drew.heap.size w.drew w') : Below w.heap.size w w' := ⟨h.os, h.tape, h.output, h.size, fun k hk => h.block k hk⟩
/-- what hangs under e, in new memory; or none does, as e is not there -/
def UndPost (bb : Bool) (X : List El) (w : World) (x : Ending) (w' : World) : Prop :=
  (bb = false ∧ (∃ v, x = .returned (.tuple #[v, .int .i64 0]) ∧ w'.ownsRow w.heap.size 43 3 v X.length (ecs X)) ∧ Below w.heap.size w w') ∨ (bb = true ∧ x = .returned (.tuple #[.slice none 0 0, .int .i64 3]) ∧ Below w.heap.size w w')
theorem e_fit {l : List OpD} (hr : rowP l) {e : El} (he : e = B0 ∨ e ∈ ordE l) : e.fit := by
  rcases he with rfl | he
  · exact b0_fit
  · have hinv := row_inv hr.2 l.length (Nat.le_refl _)
    rw [List.take_length] at hinv
    unfold ordE at he
    obtain ⟨u, hu, rfl⟩ := List.mem_map.1 he
    exact ord_fit hinv (fun s => Nat.le_trans (cnt_le _ _) hr.1) u hu
set_option maxRecDepth 100000 in
set_option maxHeartbeats 4000000 in
theorem tUnder_any (a : Option Addr) (cap : Nat) (l : List OpR) (e : El) (w : World) (h : OpsAt w a l) (hr : rowP (OpR.os l)) (bb : Bool) (hbb : (!e.begin && !decide (e ∈ ordE (OpR.os l))) = bb) : Calls Tryz.prog 20 #[.slice a l.length cap, e.v] w (UndPost bb (unE (OpR.os l) e) w) := by
  have HC := Lib.hid (fun wx (hx : Below w.heap.size w wx) => (by have h2 := tCheck_any a cap l wx (h.below hx); rw [(rowB_iff _).2 hr] at h2; exact h2 : Calls Tryz.prog 16 #[.slice a l.length cap] wx (IntB 0 wx)))
  have hlen : l.length ≤ 40 := by have := hr.1; simp [OpR.os] at this; exact this
  have hinv := row_inv hr.2 (OpR.os l).length (Nat.le_refl _)
  rw [List.take_length] at hinv
  have htot := row_tot hr.2
  have hok : ∀ r ∈ l, okOp r.o = true := by
    intro r hm
    obtain ⟨k, hk, rfl⟩ := List.getElem_of_mem hm
    have h1 := hr.2 k (by simp [OpR.os]; exact hk)
    unfold tk at h1
    rw [Bool.and_eq_true] at h1
    have h2 := h1.1
    simpa [OpR.os] using h2
  have hcnt : ∀ s, cnt (OpR.os l) s ≤ 40 := fun s => Nat.le_trans (cnt_le _ _) hr.1
  have HH := Lib.hid (fun wx (hx : Below w.heap.size w wx) => xHang_any a cap l wx (h.below hx) hok hlen htot)
  have HW := Lib.hid (fun bm wx (hx : Grp wx bm (allT (OpR.os l))) => xWalk_any bm _ (ordT (OpR.os l)) wx hx hinv.perm.symm hinv.ord (by rw [hinv.len]; exact htot) (ord_fit hinv hcnt))
  have HFIT := Lib.hid (show bb = false → e.fit from fun hb => e_fit hr (by
    rw [hb] at hbb
    cases h1 : e.begin with
    | true => exact .inl ((begin_iff _).1 h1)
    | false =>
      rw [h1] at hbb
      cases h2 : decide (e ∈ ordE (OpR.os l)) with
      | true => exact .inr (of_decide_eq_true h2)
      | false => rw [h2] at hbb; cases hbb))
  have hkp := kids_perm hinv.perm.symm e
  have HKP := Lib.hid hkp
  have HKD := Lib.hid (kids_desc hinv.ord e)
  have hkl : (kids (allT (OpR.os l)) e).length ≤ 200 := by
    rw [hkp.length_eq]
    refine Nat.le_trans (kids_length _ _) ?_
    rw [hinv.len]
    exact htot
  have hol : ((ordT (OpR.os l)).map (fun u => u.nd.e)).length ≤ 200 := by
    rw [List.length_map, hinv.len]
    exact htot
  have HBG := Lib.hid (fun wx => tBegin_any e wx)
  have HX := Lib.hid (BoxE.new w e)
  have HB0 : RowKit.Hid (Below w.heap.size w (w.alloc (.cells #[.int .i64 e.s, .int .i64 e.q, .int .i64 e.i] 43))) := Lib.hid ((Below.refl _ _).alloc (Nat.le_refl _) _)
  have HCT := Lib.hid (fun (b : Option Addr) (c : Nat) wx (hx : ElemsAt wx b ((ordT (OpR.os l)).map (fun u => u.nd.e))) => Contains_any b c _ e wx hx (by omega))
  unfold unE ordE at *
  obtain ⟨n, hn⟩ : ∃ n, l.length = n := ⟨_, rfl⟩
  rw [hn] at HC HH ⊢
  clear h hn hr hlen hinv htot hok hcnt hkp
  generalize allT (OpR.os l) = A at *
  generalize (ordT (OpR.os l)).map (fun u => u.nd.e) = E at *
  generalize kids (ordT (OpR.os l)) e = S at *
  obtain ⟨ne, hne⟩ : ∃ k, E.length = k := ⟨_, rfl⟩
  have HNE := Lib.hid hne
  rw [hne] at HCT hol
  unfold OwnPost at HW
  rw [hne] at HW
  have HLOOK := Lib.hid (fun bm w2 wx (hg : Grp w2 bm A) (hb : Below w2.heap.size w2 wx) (hf : e.fit) => grp_look hg hb e hf)
  have HIO := Lib.hid (fun (b : Option Addr) (c : Nat) wx (hx : NodesAt wx wx.heap.size b (kids A e)) => xInOrder_any b c (kids A e) S wx hx HKP.out HKD.out hkl)
  generalize kids A e = N at *
  obtain ⟨nk, hnk⟩ : ∃ k, N.length = k := ⟨_, rfl⟩
  rw [hnk] at HIO HLOOK hkl
  clear hne hnk HKP HKD
  unfold OwnPost at HIO
  obtain ⟨ns, hns⟩ : ∃ k, (S.map Nd.e).length = k := ⟨_, rfl⟩
  have HNS := Lib.hid hns
  rw [hns] at HIO
  clear hns
  generalize hbg : e.begin = bg at *
  generalize hdm : decide (e ∈ E) = dm at *
  have HBB := Lib.hid hbb
  clear hbb hbg hdm
  obtain ⟨s, q, i⟩ := e
  unfold El.v at HBG HLOOK HCT ⊢
  simp only at HX HB0 HBG HLOOK HCT ⊢
  go_enter Tryz.func20, Tryz.ntmps20
  go_upto_region 5 with (first
    | (go_at_call 16; refine (HC.out _ HB0.out).mono ?_; rintro x1 w1 ⟨rfl, hb1⟩; have HB1 := Lib.hid (HB0.out.trans (hb1.mono HB0.out.size)); have HX1 := Lib.hid (HX.out.step hb1); clear hb1)
    | (go_at_call 51; refine (HH.out w1 HB1.out).mono ?_; rintro x2 w2 ⟨bm, rfl, hg2, hb2⟩; have HG2 := Lib.hid hg2; have HB2 := Lib.hid (HB1.out.trans (hb2.mono HB1.out.size)); have HX2 := Lib.hid (HX1.out.step hb2); clear hg2 hb2)
    | fail)
  have p0 := HX2.out.c0
  have p1 := HX2.out.c1
  have p2 := HX2.out.c2
  have plt := HX2.out.lt
  simp only at p0 p1 p2
  go_cut [24] (fun s24 wx => s24 = .bool bb ∧ Below w2.heap.size w2 wx)
  case first =>
    cases bg
    · go_region_law (first
        | (go_simp; go_at_call 55; refine (HBG.out _).mono ?_; rintro x3 w3 ⟨rfl, hb3'⟩; have hb3 := drew_below hb3'; clear hb3'; have HB3 := Lib.hid hb3; have q0 := (HX2.out.step hb3).c0; have q1 := (HX2.out.step hb3).c1; have q2 := (HX2.out.step hb3).c2; have qlt := (HX2.out.step hb3).lt; simp only at q0 q1 q2; clear hb3)
        | (go_simp; go_at_call 50; refine (HW.out bm w3 (grp_below HG2.out HB3.out)).mono ?_; rintro x4 w4 ⟨v4, rfl, hown4, hb4⟩; obtain ⟨ax, cx, hv4, hex, _⟩ := elems_own (by rw [HNE.out]; exact hown4); have HEX := Lib.hid hex; rw [HNE.out] at hv4; subst hv4; have HB4 := Lib.hid (HB3.out.trans (hb4.mono HB3.out.size)); have r0 := (HX2.out.step HB4.out).c0; have r1 := (HX2.out.step HB4.out).c1; have r2 := (HX2.out.step HB4.out).c2; have rlt := (HX2.out.step HB4.out).lt; simp only at r0 r1 r2; clear hb4 hown4 hex)
        | (go_simp; go_at_call 56; refine (HCT.out _ _ _ HEX.out).mono ?_; rintro x5 w5 ⟨rfl, hb5⟩; have HB5 := Lib.hid (HB4.out.trans (hb5.mono HB4.out.size)); clear hb5)
        | fail)
      all_goals
        go_wp2_with fail
        go_meet
        exact ⟨by rw [← HBB.out]; cases dm <;> rfl, HB5.out⟩
    · have hb : bb = false := by rw [← HBB.out]; rfl
      subst hb
      have r0 := cell_regrown p0
      have r1 := cell_regrown p1
      have r2 := cell_regrown p2
      refine wp_region_quiet_below (by kernel_rfl) (by kernel_rfl) ?_
      repeat (first | go_big_quiet_step (exact Calls.regrown_of (HBG.out _)) | quiet_step (exact Calls.regrown_of (HBG.out _)))
      refine wpQuiet_nil ?_
      intro _ hw'
      obtain ⟨⟨dq, osq⟩, hw''⟩ := hw'
      subst hw''
      have HBV := Lib.hid (below_regrown w2 dq osq)
      clear r0 r1 r2
      generalize grow (redrawn w2 dq) osq = wv at *
      go_wp2_with fail
      go_meet
      exact ⟨rfl, HBV.out⟩
  case rest =>
    obtain ⟨rfl, hbc⟩ := hcut
    have HBC := Lib.hid hbc
    have HBT := Lib.hid (HB2.out.trans (hbc.mono HB2.out.size))
    have q0 := (HX2.out.step hbc).c0
    have q1 := (HX2.out.step hbc).c1
    have q2 := (HX2.out.step hbc).c2
    have qlt := (HX2.out.step hbc).lt
    simp only at q0 q1 q2
    clear p0 p1 p2 plt
    cases bb
    · obtain ⟨ak, ck, hrun, hnk⟩ := HLOOK.out bm w2 _ HG2.out hbc (HFIT.out rfl)
      have HNK := Lib.hid (hnk.up hbc.size)
      clear hnk hbc
      go_wp2_with (first
        | (go_at_call 57; refine (HIO.out _ _ _ HNK.out).mono ?_; rintro x6 w6 ⟨v6, rfl, hown6, hb6⟩; have HO6 := Lib.hid (owns_base hown6 HBT.out.size); have HB6 := Lib.hid (HBT.out.trans (hb6.mono HBT.out.size)); clear hown6 hb6)
        | fail)
      go_ret2
      exact .inl ⟨rfl, ⟨v6, rfl, by rw [HNS.out]; exact HO6.out⟩, HB6.out⟩
    · clear hbc
      go_wp2_with fail
      go_ret2
      exact .inr ⟨rfl, rfl, HBT.out⟩
end Go.Proofs.YtjkgmpohddcgpaaGreatDoor
