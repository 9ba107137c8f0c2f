/- tree.walk: all elements of a tree, in order -/
import Derived.Test.YthnedehihbploaaGreatDoorFront
import Derived.Test.YthnedehihbploaaGreatDoorTMath
import Derived.Test.YthnedehihbploaaGreatDoorTMap
namespace Go.Proofs.YthnedehihbploaaGreatDoor
open Go.RowKit Go.Lib

/-- block bm is a map that holds what hangs right under each, of all in A -/
def Grp (w : World) (bm : Nat) (A : List Tn) : Prop := ∃ n V, MapE w bm n V ∧ (∀ e, V e = none → kids A e = []) ∧ ∀ e v, V e = some v → ∃ a cap, v = .slice a (kids A e).length cap ∧ NodesAt w w.heap.size a (kids A e)
theorem grp_look {w wr : World} {bm : Nat} {A : List Tn} (h : Grp w bm A) (hb : Below w.heap.size w wr) (e : El) (he : e.fit) :
    ∃ a cap, (Instr.lookup 138 (.map (some bm)) e.v false).run Tryz.prog wr = .ok (.slice a (kids A e).length cap) wr ∧ NodesAt wr w.heap.size a (kids A e) := by
  obtain ⟨n, V, hM, h1, h2⟩ := h
  have hM2 : MapE wr bm n V := hM.kept (hb.block bm hM.lt)
  have hl := hM2.look (t := 138) (z := .slice none 0 0) Tryz.underlying138 (by kernel_rfl) e he false
  cases hv : V e with
  | none =>
    rw [hv] at hl
    rw [h1 e hv]
    exact ⟨none, 0, hl, ⟨fun j hj => absurd hj (by simp)⟩⟩
  | some v =>
    obtain ⟨a, cap, rfl, hn⟩ := h2 e v hv
    rw [hv] at hl
    exact ⟨a, cap, hl, hn.below hb⟩

theorem b0_fit : El.fit B0 := by unfold El.fit in64 B0; decide
/-- the two rows of the call's own lie apart -/
def Apart (lv : Value) (F : Nat) (v : Value) : Prop := lv.ownBlock = none ∨ (lv.ownBlock ≠ some F ∧ lv.ownBlock ≠ v.ownBlock)
theorem front_keeps {w w2 : World} {base F : Nat} {v lv : Value} {L2 : List Nd} {t : TypeId} {size n : Nat} {xs : List Value} (hl : w.ownsRow base t size lv n xs) (hap : Apart lv F v) (h : FrTo base F w v L2 w2) (hF : base ≤ F) (hv : ∀ g, v.ownBlock = some g → base ≤ g) (hs : base ≤ w.heap.size) :
    ∃ v2, Fr w2 base F v2 L2 ∧ w2.ownsRow base t size lv n xs ∧ Apart lv F v2 ∧ Below base w w2 := by
  obtain ⟨v2, h1, h2, h3⟩ := h
  refine ⟨v2, h1, ?_, ?_, h2.below hF hv hs⟩
  · refine ⟨hl.1, ?_⟩
    rcases hl.2 with hn | ⟨g, cap, cur, hvv, hg, hh, r⟩
    · exact .inl hn
    · refine .inr ⟨g, cap, cur, hvv, hg, ?_, r⟩
      have hglt := (Array.getElem?_eq_some_iff.1 hh).1
      have hob : lv.ownBlock = some g := by rw [hvv]; rfl
      rcases hap with e | ⟨e1, e2⟩
      · rw [hob] at e; cases e
      · rw [h2.block g hglt (fun e => e1 (by rw [hob, e])) (fun e => e2 (by rw [hob]; exact e))]
        exact hh
  · rcases hap with e | ⟨e1, e2⟩
    · exact .inl e
    · by_cases hnone : lv.ownBlock = none
      · exact .inl hnone
      · refine .inr ⟨e1, ?_⟩
        rcases h3 with e3 | ⟨g, e3, hg⟩
        · rw [e3]; exact e2
        · rw [e3]
          intro e4
          have := (hl.lt g e4).2
          omega
theorem append_keeps {w w2 : World} {base F : Nat} {v lv lv2 : Value} {L : List Nd} (h : Fr w base F v L) (hg : w.grownBy w2 lv.ownBlock) (hap : Apart lv F v) (hat : lv2.ownBlock = lv.ownBlock ∨ lv2.ownBlock = some w.heap.size) :
    Fr w2 base F v L ∧ Apart lv2 F v := by
  have hFne : lv.ownBlock ≠ some F := by
    rcases hap with e | ⟨e, _⟩
    · rw [e]; simp
    · exact e
  refine ⟨⟨by rw [hg.block F h.lt (fun e => hFne e.symm)]; exact h.box, ?_, h.ge, h.ne⟩, ?_⟩
  · refine h.own.kept hg ?_
    by_cases hn : v.ownBlock = none
    · exact .inl hn
    · refine .inr ?_
      rcases hap with e | ⟨_, e⟩
      · rw [e]; exact hn
      · exact Ne.symm e
  · rcases hat with e | e
    · unfold Apart
      rw [e]
      exact hap
    · refine .inr ⟨by rw [e]; have := h.lt; simp; omega, ?_⟩
      rw [e]
      intro e2
      have := (h.own.lt _ e2.symm).2
      omega
theorem Apart.nil (F : Nat) (v : Value) : Apart (.slice none 0 0) F v := .inl rfl
theorem fr_new (w : World) : Fr (w.alloc (.cells #[.slice none 0 0] 160)) w.heap.size w.heap.size (.slice none 0 0) [] :=
  ⟨heap_alloc_new w _, World.ownsRow_nil _ _ _ _, Nat.le_refl _, by simp [Value.ownBlock]⟩
theorem ts_take {D : List Tn} {m : Nat} {t : Tn} (ht : D[m]? = some t) : ecs ((D.take (m + 1)).map (fun u => u.nd.e)) = ecs ((D.take m).map (fun u => u.nd.e)) ++ El.cs t.nd.e := by
  obtain ⟨h1, h2⟩ := List.getElem?_eq_some_iff.1 ht
  rw [List.take_succ_eq_append_getElem h1, List.map_append, ecs_append, h2]
  simp [ecs]
/-- behind m rounds: the front, and what was told, the slice lv -/
def WalkSt (D : List Tn) (base : Nat) (w wr : World) (m : Nat) (lv : Value) : Prop :=
  ∃ v L, Fr wr base base v L ∧ HeapN L L.length ∧ L.Perm (fr D m) ∧ wr.ownsRow base 37 3 lv m (ecs ((D.take m).map (fun u => u.nd.e))) ∧ Apart lv base v ∧ Below base w wr ∧ base ≤ wr.heap.size
theorem walk_start {D : List Tn} {base : Nat} {w w1 w2 : World} {L2 : List Nd} (hb : Below base w w1) (hs : w.heap.size = base) (_hf : Fr w1 base base (.slice none 0 0) []) (hto : FrTo base base w1 (.slice none 0 0) L2 w2) (hp : L2.Perm (fr D 0)) (hh : HeapN L2 L2.length) : WalkSt D base w w2 0 (.slice none 0 0) := by
  have hs1 : base ≤ w1.heap.size := by have := hb.size; omega
  obtain ⟨v2, h1, h2, h3, h4⟩ := front_keeps (World.ownsRow_nil w1 base 37 3) (Apart.nil base (.slice none 0 0)) hto (Nat.le_refl _) (fun g h => absurd h (by simp [Value.ownBlock])) hs1
  exact ⟨v2, L2, h1, hh, hp, h2, h3, hb.trans h4, by have := h4.size; omega⟩
def lenOf : Value → Nat
  | .slice _ n _ => n
  | _ => 0
theorem walk_len {D : List Tn} {base : Nat} {w wr : World} {m : Nat} {lv : Value} (h : WalkSt D base w wr m lv) : lenOf lv = m := by
  obtain ⟨v, L, _, _, _, ho, _⟩ := h
  rcases ho.2 with ⟨hv, h0⟩ | ⟨g, cap, cur, hv, _⟩
  · rw [hv, h0]; rfl
  · rw [hv]; rfl
/-- behind a pop: the next element came; the front without it -/
theorem walk_first {D : List Tn} {base : Nat} {w wr w1 w2 : World} {m : Nat} {lv v : Value} {L L2 : List Nd} {x : Nd} {t : Tn} (hD : TOrd D) (ht : D[m]? = some t) (hf : Fr wr base base v L) (ho : wr.ownsRow base 37 3 lv m (ecs ((D.take m).map (fun u => u.nd.e)))) (hap : Apart lv base v) (hb : Below base w wr) (hbs : base ≤ wr.heap.size)
    (hs : Same wr w1) (hto : FrTo base base w1 v L2 w2) (hp : (x :: L2).Perm (fr D m)) (hmax : ∀ y ∈ L2, y.op ≤ x.op) :
    x = t.nd ∧ (L2 ++ kids D t.nd.e).Perm (fr D (m + 1)) ∧ ∃ v2, Fr w2 base base v2 L2 ∧ w2.ownsRow base 37 3 lv m (ecs ((D.take m).map (fun u => u.nd.e))) ∧ Apart lv base v2 ∧ Below base w w2 ∧ base ≤ w2.heap.size := by
  obtain ⟨hx, hpp⟩ := fr_step hD ht hp hmax
  obtain ⟨v2, h1, h2, h3, h4⟩ := front_keeps (hs.owns ho) hap hto (Nat.le_refl _) (fun g hg => (hf.own.lt g hg).1) (by rw [hs.heap]; exact hbs)
  exact ⟨hx, hpp, v2, h1, h2, h3, (hb.trans (hs.below base)).trans h4, by have := h4.size; rw [hs.heap] at this; omega⟩
theorem news_two (w : World) (e : El) (o : Obj) (t : TypeId) : ∀ j u, (El.cs e)[j]? = some u → ((w.alloc o).alloc (.cells #[.int .i64 e.s, .int .i64 e.q, .int .i64 e.i] t)).cell? ((⟨w.heap.size + 1, 0, none⟩ : Addr).add j) = some u := by
  have h := cell_three_new (w.alloc o) e t
  have hz : (w.alloc o).heap.size = w.heap.size + 1 := by simp
  rw [hz] at h
  exact h
theorem walk_app {w w2 w8 : World} {base m : Nat} {lv v8 v2 : Value} {L2 : List Nd} {t : TypeId} {size : Nat} {xs : List Value} {a b c : Value} {T : TypeId} {o : Obj} (hf : Fr w2 base base v2 L2) (ho : w2.ownsRow base t size lv m xs) (hap : Apart lv base v2) (hb : Below base w w2) (hbs : base ≤ w2.heap.size)
    (hg : ((w2.alloc (.cells #[a, b, c] T)).alloc o).grownBy w8 lv.ownBlock) (hat : v8.ownBlock = lv.ownBlock ∨ v8.ownBlock = some ((w2.alloc (.cells #[a, b, c] T)).alloc o).heap.size) :
    Fr w8 base base v2 L2 ∧ Apart v8 base v2 ∧ Below base w w8 ∧ base ≤ w8.heap.size ∧ w8.cell? ⟨w2.heap.size, 0, none⟩ = some a ∧ w8.cell? ⟨w2.heap.size, 1, none⟩ = some b ∧ w8.cell? ⟨w2.heap.size, 2, none⟩ = some c ∧ w2.heap.size < w8.heap.size := by
  obtain ⟨h1, h2⟩ := append_keeps ((hf.alloc _).alloc _) hg hap hat
  have hs : ((w2.alloc (.cells #[a, b, c] T)).alloc o).heap.size = w2.heap.size + 2 := by simp
  have hbl : w8.heap[w2.heap.size]? = some (.cells #[a, b, c] T (0, 0)) := by
    rw [hg.block w2.heap.size (by omega) (fun e => by have := (ho.lt _ e.symm).2; omega), heap_alloc_old _ _ (by simp)]
    exact heap_alloc_new w2 _
  have hsz := hg.size
  refine ⟨h1, h2, hb.trans ((((Below.refl base w2).alloc hbs _).alloc (by simp; omega) _).grown hg (by omega) (fun j hj => (ho.lt j hj).1)), by omega, ?_, ?_, ?_, by omega⟩
  all_goals simp [World.cell?, hbl]
theorem walk_next {D A : List Tn} {base m : Nat} {w w8 w9 : World} {v8 v2 : Value} {L2 L9 : List Nd} {e : El} (hmt : ecs ((D.take (m + 1)).map (fun u => u.nd.e)) = ecs ((D.take m).map (fun u => u.nd.e)) ++ El.cs e) (hpp : (L2 ++ kids D e).Perm (fr D (m + 1))) (hak : (kids A e).Perm (kids D e))
    (hf : Fr w8 base base v2 L2) (ho : w8.ownsRow base 37 3 v8 (m + 1) (ecs ((D.take m).map (fun u => u.nd.e)) ++ El.cs e)) (hap : Apart v8 base v2) (hb : Below base w w8) (hbs : base ≤ w8.heap.size)
    (hto : FrTo base base w8 v2 L9 w9) (hp : L9.Perm (L2 ++ kids A e)) (hh : HeapN L9 L9.length) : WalkSt D base w w9 (m + 1) v8 := by
  obtain ⟨v9, h1, h2, h3, h4⟩ := front_keeps ho hap hto (Nat.le_refl _) (fun g hg => (hf.own.lt g hg).1) hbs
  rw [← hmt] at h2
  exact ⟨v9, L9, h1, hh, (hp.trans (hak.append_left _)).trans hpp, h2, h3, hb.trans h4, by have := h4.size; omega⟩
theorem walk_fin {D : List Tn} {base m : Nat} {w wr : World} {lv : Value} (hbs : w.heap.size = base) (h0 : m = D.length) (ho : wr.ownsRow base 37 3 lv m (ecs ((D.take m).map (fun u => u.nd.e)))) (hb : Below base w wr) : OwnPost (D.map (fun u => u.nd.e)) w (.returned lv) wr := by
  rw [h0, List.take_length] at ho
  refine ⟨lv, rfl, ?_, ?_⟩
  · rw [List.length_map, hbs]; exact ho
  · rw [hbs]; exact hb
theorem own_same {l : List El} {w wr w1 : World} {s : Value} (h : OwnPost l w (.returned s) wr) (hs : Same wr w1) : OwnPost l w (.returned s) w1 := by
  obtain ⟨v, h1, h2, h3⟩ := h
  exact ⟨v, h1, hs.owns h2, h3.trans (hs.below _)⟩
set_option maxRecDepth 100000 in
set_option maxHeartbeats 2000000 in
theorem xWalk_any (bm : Nat) (A D : List Tn) (w : World) (hG : Grp w bm A) (hA : A.Perm D) (hD : TOrd D) (hl : D.length ≤ 200) (hfit : ∀ u ∈ D, u.nd.e.fit) :
    Calls Tryz.prog 98 #[.map (some bm)] w (OwnPost (D.map (fun u => u.nd.e)) w) := by
  obtain ⟨i0, hi0, hz0, hz1, hz2⟩ := info_parts Tryz.infoElem
  have HFR0 := Lib.hid (fr_new w)
  have HB0 : RowKit.Hid (Below w.heap.size w (w.alloc (.cells #[.slice none 0 0] 160))) := Lib.hid ((Below.refl _ _).alloc (Nat.le_refl _) _)
  have hlt0 : w.heap.size < (w.alloc (.cells #[.slice none 0 0] 160)).heap.size := by simp
  obtain ⟨a0, c0, hr0, hn0⟩ := grp_look hG HB0.out B0 b0_fit
  have HN0 := Lib.hid hn0
  have HG := Lib.hid hG
  have HAK := Lib.hid (fun e => kids_perm hA e)
  have HD := Lib.hid hD
  have HFIT := Lib.hid hfit
  have HL := Lib.hid hl
  have HKL := Lib.hid (fun e => Nat.le_trans (Nat.le_of_eq (kids_perm hA e).length_eq) (kids_length D e))
  clear hG hA hD hl hfit hn0
  unfold El.v B0 at hr0
  simp only at hr0
  have hk0 := HKL.out ⟨0, 0, 0⟩
  have hl0 := HL.out
  have HC0 := Lib.hid (fHold_any w.heap.size w.heap.size (.slice none 0 0) [] (kids A ⟨0, 0, 0⟩) a0 c0 _ HFR0.out (fun i _ h => absurd h (by simp)) HN0.out (by simp only [List.length_nil]; omega))
  clear hk0 hl0
  have HP0 : RowKit.Hid (([] ++ kids A ⟨0, 0, 0⟩).Perm (fr D 0)) := Lib.hid (by rw [fr_start]; exact HAK.out _)
  generalize hbase : w.heap.size = base at *
  generalize hw1 : (w.alloc (.cells #[.slice none 0 0] 160)) = w1 at *
  have HW1 := Lib.hid hw1
  have HBS := Lib.hid hbase
  go_enter Tryz.func98, Tryz.ntmps98
  go_wp2_with (first | (go_at_call 116; refine HC0.out.mono ?_; rintro x2 w2 ⟨rfl, L2, hto2, hp2, hh2⟩; have HS2 := Lib.hid (show WalkSt D base w w2 0 (.slice none 0 0) from walk_start HB0.out hbase HFR0.out hto2 (hp2.trans HP0.out) hh2); clear hto2 hp2 hh2))
  go_loopw [4] (fun s4 wr => ∃ m : Nat, m ≤ D.length ∧ WalkSt D base w wr m s4) (fun s4 _ => D.length - lenOf s4)
  case atStart => exact ⟨0, Nat.zero_le _, HS2.out⟩
  case round =>
    clear HS2 HC0 HP0 HN0 hr0 HW1 HFR0 HB0 hlt0
    obtain ⟨m, hm, hst⟩ := hrel
    have HLEN := Lib.hid (walk_len hst)
    have HMT := Lib.hid (fun t (ht : D[m]? = some t) => ts_take ht)
    obtain ⟨v, L, hf, hh, hp, ho, hap, hb, hbs⟩ := hst
    have hL : L.length ≤ 200 := Nat.le_trans (Nat.le_of_eq hp.length_eq) (Nat.le_trans (fr_length D m) HL.out)
    have c0 := hf.cell
    obtain ⟨av, cv, rfl, _, _, _⟩ := hf.form
    have hFlt := hf.lt
    by_cases hlt : m < D.length
    · have hpos : (0 : Int) < (L.length : Int) := by have := fr_pos HD.out hlt; rw [← hp.length_eq] at this; omega
      obtain ⟨t, ht⟩ : ∃ t, D[m]? = some t := ⟨_, List.getElem?_eq_getElem hlt⟩
      have htm : t ∈ D := List.mem_of_getElem? ht
      have HT := Lib.hid ht
      have HF := Lib.hid hf
      have HO := Lib.hid ho
      have HAP := Lib.hid hap
      have HB := Lib.hid hb
      have HBB := Lib.hid hbs
      have HP := Lib.hid hp
      have HC1 := Lib.hid (fun wx (hx : Fr wx base base (.slice av L.length cv) L) => fFirst_any base base (.slice av L.length cv) L wx hx hh (by omega) (by omega))
      have HTM := Lib.hid (HFIT.out t htm)
      have HM1 := Lib.hid (show m + 1 ≤ maxLen from by have := HL.out; simp only [maxLen]; omega)
      have HM2 := Lib.hid (show (m + 1) * 24 ≤ 140737488355328 from by have := HL.out; omega)
      clear hf ho hap hb hp hh ht htm hm
      obtain ⟨⟨⟨es, eq, ei⟩, op⟩, par⟩ := t
      have HMT2 := Lib.hid (HMT.out _ HT.out)
      clear HMT
      simp only at HMT2 HTM
      generalize hk : L.length = k at *
      go_wp2_with (first
        | (go_at_call 117; refine (fLen_any _ k cv wr).mono ?_; rintro x1 w1 ⟨rfl, hs1⟩; have HS1 := Lib.hid hs1; clear hs1)
        | (go_at_call 118; refine (HC1.out w1 (HF.out.same HS1.out)).mono ?_; rintro x2 w2 ⟨x, L2, rfl, hto2, hp2, hmx2, hh2⟩; obtain ⟨rfl, hpp2, v2, hf2, ho2, hap2, hb2, hbs2⟩ := walk_first HD.out HT.out HF.out HO.out HAP.out HB.out HBB.out HS1.out hto2 (hp2.trans HP.out) hmx2; have HL2 := Lib.hid (show L2.length ≤ 200 from by have := hp2.length_eq; rw [List.length_cons] at this; omega); have HF2 := Lib.hid hf2; have HO2 := Lib.hid ho2; have HAP2 := Lib.hid hap2; have HB2 := Lib.hid hb2; have HBS2 := Lib.hid hbs2; have HPP2 := Lib.hid hpp2; have HH2 := Lib.hid hh2; clear hto2 hp2 hmx2 hh2 hpp2 hf2 ho2 hap2 hb2 hbs2; unfold El.v; simp only)
        | (at_builtin; refine wpList_append_own_at _ rfl _ _ 23 rfl base 37 i0 (.agg #[.int .i64 0, .int .i64 0, .int .i64 0]) 3 24 Tryz.underlying23 hi0 hz0 hz1 hz2 rfl (by decide) _ m _ rfl ((HO2.out.alloc _).alloc _) ⟨w2.heap.size + 1, 0, none⟩ 1 1 (El.cs ⟨es, eq, ei⟩) rfl rfl (news_two w2 ⟨es, eq, ei⟩ _ _) (cs_one ⟨es, eq, ei⟩) HM1.out HM2.out (by have := HBS2.out; simp; omega) ?_; intro v8 w8 hown8 hgrow8 hnil8 hat8; obtain ⟨hf8, hap8, hb8, hbs8, q0, q1, q2, hlt8⟩ := walk_app HF2.out HO2.out HAP2.out HB2.out HBS2.out hgrow8 hat8; obtain ⟨a9, c9, hr9, hn9⟩ := grp_look HG.out (by rw [HBS.out]; exact hb8) ⟨es, eq, ei⟩ HTM.out; rw [HBS.out] at hn9; unfold El.v at hr9; simp only at hr9; have HF8 := Lib.hid hf8; have HAP8 := Lib.hid hap8; have HB8 := Lib.hid hb8; have HBS8 := Lib.hid hbs8; have HN9 := Lib.hid hn9; have HO8 := Lib.hid hown8; clear hf8 hap8 hb8 hbs8 hn9 hown8 hgrow8 hnil8 hat8)
        | (go_at_call 116; refine (fHold_any base base v2 L2 (kids A ⟨es, eq, ei⟩) a9 c9 w8 HF8.out HH2.out HN9.out (by have := HL2.out; have := HKL.out ⟨es, eq, ei⟩; have := HL.out; omega)).mono ?_; rintro x9 w9 ⟨rfl, L9, hto9, hp9, hh9⟩; have HST9 := Lib.hid (show WalkSt D base w w9 (m + 1) v8 from walk_next HMT2.out HPP2.out (HAK.out _) HF8.out HO8.out HAP8.out HB8.out HBS8.out hto9 hp9 hh9); clear hto9 hp9 hh9)
        | fail)
      go_roundw
      case rel => exact ⟨m + 1, by omega, HST9.out⟩
      case measure =>
        have h1 := HLEN.out
        have h2 := walk_len HST9.out
        simp
        rw [h1, h2]
        omega
    · have h0 : m = D.length := by omega
      have hL0 : L = [] := by
        have := hp.length_eq
        rw [fr_end (by omega)] at this
        exact List.eq_nil_of_length_eq_zero this
      have HFIN := Lib.hid (walk_fin HBS.out h0 ho hb)
      subst hL0
      clear hf ho hap hb hp hh
      go_wp2_with (first
        | (go_at_call 117; refine (fLen_any _ 0 cv wr).mono ?_; rintro x1 w1 ⟨rfl, hs1⟩; have HS1 := Lib.hid hs1; clear hs1)
        | fail)
      go_ret
      exact own_same HFIN.out HS1.out
end Go.Proofs.YthnedehihbploaaGreatDoor
