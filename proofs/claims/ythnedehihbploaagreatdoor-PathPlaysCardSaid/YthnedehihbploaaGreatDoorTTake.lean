/- tree.ahead.take: may an op stand next? -/
import Derived.Test.YthnedehihbploaaGreatDoorTAhead
import Derived.Test.YthnedehihbploaaGreatDoorONeedsP
import Derived.Sort.AtCall
import Derived.Deep.CutBlock
import Derived.Deep.RegionLaw
namespace Go.Proofs.YthnedehihbploaaGreatDoor
open Go.RowKit Go.Lib

theorem tNeeds_any (o : OpD) (a : Option Addr) (cap : Nat) (w : World) (hi : OpIn w o a) (hb : okOp o = true) : Calls Tryz.prog 130 #[o.v a cap] w (ListPost (needs o) w) := by
  by_cases hk : o.kind = 2
  · exact xNeeds_toggle o a cap w hi hb hk
  · exact xNeeds_edit o a cap w hi hb hk
theorem gOk_ok {s q : Int} : ∀ {p : Option El} {l : List El}, gOk s q p l = true → ∀ x ∈ l, x.ok = true
  | _, [], _ => fun x h => absurd h (by simp)
  | p, e :: r, h => fun x hx => by
    unfold gOk at h
    simp only [Bool.and_eq_true] at h
    rcases List.mem_cons.1 hx with rfl | hx
    · exact h.2.1
    · exact gOk_ok h.2.2.2.2 x hx
theorem gone_ok {o : OpD} (h : okOp o = true) : o.gone.length ≤ 200 ∧ ∀ x ∈ o.gone, x.ok = true := by
  by_cases hk : o.kind = 2
  · unfold okOp at h
    rw [Bool.and_eq_true, if_neg (by omega), if_pos hk] at h
    have h2 := h.2
    unfold okToggle at h2
    simp only [Bool.and_eq_true] at h2
    have h3 : o.gone.length = 0 := of_decide_eq_true h2.2.2.1
    have h4 := List.eq_nil_of_length_eq_zero h3
    rw [h4]
    exact ⟨by simp, fun x hx => absurd hx (by simp)⟩
  · obtain ⟨_, he⟩ := okOp_edit h hk
    obtain ⟨h1, h2, _⟩ := okEdit_gone he
    exact ⟨h1, gOk_ok h2⟩
theorem after_ok {o : OpD} (h : okOp o = true) : o.after.ok = true := by
  have hb : o.after.begin = true → o.after.ok = true := fun hb => by unfold El.ok; rw [hb]; rfl
  by_cases hk : o.kind = 2
  · unfold okOp at h
    rw [Bool.and_eq_true, if_neg (by omega), if_pos hk] at h
    have h2 := h.2
    unfold okToggle at h2
    simp only [Bool.and_eq_true] at h2
    exact hb h2.1
  · obtain ⟨_, he⟩ := okOp_edit h hk
    obtain ⟨_, _, h3⟩ := okEdit_gone he
    unfold okAfter at h3
    split at h3
    · exact hb h3
    · rw [Bool.and_eq_true] at h3
      exact h3.1
theorem needs_fit {o : OpD} (h : okOp o = true) : ∀ e ∈ needs o, e.fit := by
  intro e he
  by_cases hk : o.kind = 2
  · unfold needs at he
    rw [if_pos hk] at he
    have he2 : e = ⟨o.of, o.num, 0⟩ := by simpa using he
    unfold okOp at h
    rw [Bool.and_eq_true, if_neg (by omega), if_pos hk] at h
    have h2 := h.2
    unfold okToggle at h2
    simp only [Bool.and_eq_true] at h2
    have := nameB_of h2.2.2.2.2.1
    rw [he2]
    unfold El.fit in64
    simp only
    omega
  · unfold needs at he
    rw [if_neg hk, ddl_mem, isort_mem] at he
    unfold needL at he
    rcases List.mem_append.1 he with he | he
    · split at he
      · exact absurd he (by simp)
      · have : e = o.after.w := by simpa using he
        rw [this]
        exact w_fit (after_ok h)
    · obtain ⟨x, hx, rfl⟩ := List.mem_map.1 he
      exact w_fit ((gone_ok h).2 x hx)

/-- under way: what was written, the op in its box -/
structure TSt (base AB eb : Nat) (l : List OpD) (o : OpD) (a : Option Addr) (cap bx : Nat) (w wr : World) : Prop where
  ah : AhAt wr base AB eb l
  bx : BoxO wr bx o a cap
  gn : ElemsAt wr a o.gone
  below : Below w.heap.size w wr
theorem TSt.step {base AB eb : Nat} {l : List OpD} {o : OpD} {a : Option Addr} {cap bx : Nat} {w wr wu : World} (h : TSt base AB eb l o a cap bx w wr) (hb : Below wr.heap.size wr wu) : TSt base AB eb l o a cap bx w wu :=
  ⟨h.ah.below hb, h.bx.step hb, h.gn.below hb, h.below.trans (hb.mono h.below.size)⟩
theorem TSt.opin {base AB eb : Nat} {l : List OpD} {o : OpD} {a : Option Addr} {cap bx : Nat} {w wr : World} (h : TSt base AB eb l o a cap bx w wr) (hl : o.gone.length ≤ 140737488351232) (hs : o.text.size ≤ 140737488351232) : OpIn wr o a := ⟨h.gn, hl, hs⟩
theorem elems_one (w : World) (e : El) : ElemsAt (w.alloc (.cells #[.int .i64 e.s, .int .i64 e.q, .int .i64 e.i] 37)) (some ⟨w.heap.size, 0, none⟩) [e] :=
  ⟨fun j hj => by
    have h0 : j = 0 := by simpa using hj
    subst h0
    have hb := BoxE.new w e
    exact ⟨w.heap.size, 0, rfl, hb.lt, by simp, by simp, by simp⟩⟩
def TakePost (base AB eb : Nat) (l : List OpD) (o : OpD) (w : World) (e : Ending) (w' : World) : Prop :=
  ((tk l o = true ∧ e = .returned (.bool true) ∧ AhAt w' base AB eb (l ++ [o])) ∨ (tk l o = false ∧ e = .returned (.bool false))) ∧ Below base w w'
theorem take_no {base AB eb : Nat} {l : List OpD} {o : OpD} {w w' : World} (ht : tk l o = false) (hb : Below w.heap.size w w') (hs : base ≤ w.heap.size) : TakePost base AB eb l o w (.returned (.bool false)) w' :=
  ⟨.inr ⟨ht, rfl⟩, hb.os, hb.tape, hb.output, hb.size, fun k hk => hb.block k (by omega)⟩
theorem cnt_le (l : List OpD) (s : Int) : cnt l s ≤ l.length := List.length_filter_le _ _
theorem step_mapUpdate {P : Program} {w : World} {ops : Array Oper} {o : Oper} {a : Act} {K : Act → World → Prop} {Q : Exit → Act → World → Prop} {E : Prop} (hgd : o.guard = none) (m x v : Operand) (t : TypeId) (ho : o.op = Op.mapUpdate t m x v)
    (mv kv vv : Value) (hm : a.eval m = mv) (hx : a.eval x = kv) (hv : a.eval v = vv) {w1 : World} (hrun : (Instr.mapUpdate t mv kv vv).run P w = .ok () w1) (h : K (a.put o.dst undef) w1) :
    if Region.wanted o (yielded ops a.tmps) = true then Oper.wp P o a w K Q else E := by
  have hw : Region.wanted o (yielded ops a.tmps) = true := by simp [Region.wanted, hgd]
  rw [if_pos hw]
  unfold Oper.wp
  simp [execOp, ho, hm, hx, hv, hrun, Result.andThen]
  exact h
theorem ah_count {eb AB sn nn cs : Nat} {l : List OpD} {O : OpD} {w : World} {t : TypeId} (h : w.heap[AB]? = some (.cells (ahCells eb l) t (0, 0))) (hs : O.site = sn) (h1 : 1 ≤ sn) (h8 : sn ≤ 8) (hn : nR O.text = nn) (hc : cnt l sn = cs) :
    (((w.setCell ⟨AB, 1 + sn, none⟩ (.int .i64 ((cs : Int) + 1))).setCell ⟨AB, 10, none⟩ (.int .i64 ((tot l : Int) + (nn : Int)))).drew).heap[AB]? = some (.cells (ahCells eb (l ++ [O])) t (0, 0)) := by
  have e1 : ((w.setCell ⟨AB, 1 + sn, none⟩ (.int .i64 ((cs : Int) + 1))).setCell ⟨AB, 10, none⟩ (.int .i64 ((tot l : Int) + (nn : Int)))).heap[AB]? = some (.cells (((ahCells eb l).setIfInBounds (1 + sn) (.int .i64 ((cs : Int) + 1))).setIfInBounds 10 (.int .i64 ((tot l : Int) + (nn : Int)))) t (0, 0)) := by
    unfold World.setCell
    simp [Array.getElem?_modify, h]
  show ((w.setCell ⟨AB, 1 + sn, none⟩ (.int .i64 ((cs : Int) + 1))).setCell ⟨AB, 10, none⟩ (.int .i64 ((tot l : Int) + (nn : Int)))).heap[AB]? = _
  rw [e1]
  have ht : tot (l ++ [O]) = tot l + nn := by rw [tot_snoc, hn]
  have hcc : ∀ s : Int, cnt (l ++ [O]) s = cnt l s + (if (sn : Int) = s then 1 else 0) := fun s => by rw [cnt_snoc, hs]
  unfold ahCells
  rw [ht]
  simp only [hcc]
  have hk : sn = 1 ∨ sn = 2 ∨ sn = 3 ∨ sn = 4 ∨ sn = 5 ∨ sn = 6 ∨ sn = 7 ∨ sn = 8 := by omega
  rcases hk with rfl | rfl | rfl | rfl | rfl | rfl | rfl | rfl <;> (subst hc; simp)
theorem take_count {base AB eb sn nn cs bx : Nat} {l : List OpD} {O : OpD} {a : Option Addr} {cap : Nat} {w w10 : World} (h : TSt base AB eb l O a cap bx w w10) (hs : O.site = sn) (h1 : 1 ≤ sn) (h8 : sn ≤ 8) (hn : nR O.text = nn) (hc : cnt l sn = cs) (hab : AB < bx) (hbs : base ≤ w.heap.size) :
    let w11 := ((w10.setCell ⟨AB, 1 + sn, none⟩ (.int .i64 ((cs : Int) + 1))).setCell ⟨AB, 10, none⟩ (.int .i64 ((tot l : Int) + (nn : Int)))).drew
    w11.heap[AB]? = some (.cells (ahCells eb (l ++ [O])) 158 (0, 0)) ∧ MapE w11 eb l.length (edV l) ∧ Below base w w11 ∧
      w11.cell? ⟨bx, 0, none⟩ = some (.int .i64 O.site) ∧ w11.cell? ⟨bx, 1, none⟩ = some (.int .i64 O.seq) ∧ w11.cell? ⟨bx, 2, none⟩ = some (.int .i64 O.kind) ∧ bx < w11.heap.size ∧ AB < w11.heap.size ∧ w11.cell? ⟨AB, 0, none⟩ = some (.map (some eb)) := by
  intro w11
  have hbox := ah_count h.ah.box hs h1 h8 hn hc
  have hother : ∀ k, k ≠ AB → w11.heap[k]? = w10.heap[k]? := fun k hk => by
    show ((w10.setCell ⟨AB, 1 + sn, none⟩ (.int .i64 ((cs : Int) + 1))).setCell ⟨AB, 10, none⟩ (.int .i64 ((tot l : Int) + (nn : Int)))).heap[k]? = _
    rw [set_other hk, set_other hk]
  have hsz : w11.heap.size = w10.heap.size := by
    show ((w10.setCell ⟨AB, 1 + sn, none⟩ (.int .i64 ((cs : Int) + 1))).setCell ⟨AB, 10, none⟩ (.int .i64 ((tot l : Int) + (nn : Int)))).heap.size = _
    simp
  have hcell : ∀ c, w11.cell? ⟨bx, c, none⟩ = w10.cell? ⟨bx, c, none⟩ := fun c => World.cell?_of_block (hother bx (by omega))
  have hge := h.ah.ge.2
  have hb : Below base w w10 := ⟨h.below.os, h.below.tape, h.below.output, h.below.size, fun k hk => h.below.block k (by omega)⟩
  have hb2 : Below base w ((w10.setCell ⟨AB, 1 + sn, none⟩ (.int .i64 ((cs : Int) + 1))).setCell ⟨AB, 10, none⟩ (.int .i64 ((tot l : Int) + (nn : Int)))) := (hb.setCell hge _).setCell hge _
  refine ⟨hbox, h.ah.map.kept (hother eb h.ah.ne), ⟨hb2.os, hb2.tape, hb2.output, hb2.size, hb2.block⟩, by rw [hcell]; exact h.bx.c0, by rw [hcell]; exact h.bx.c1, by rw [hcell]; exact h.bx.c2, by rw [hsz]; exact h.bx.lt, by rw [hsz]; exact h.ah.lt.1, ?_⟩
  simp [World.cell?, w11, hbox, ahCells]
theorem take_map {eb nn : Nat} {l : List OpD} {O : OpD} {w : World} (h : MapE w eb l.length (edV l)) (hk : O.kind = 1) (hs : 0 ≤ O.site ∧ O.site ≤ 8) (hq : 0 ≤ O.seq ∧ O.seq ≤ 268435456) (hn : nR O.text = nn) (hl : l.length ≤ 40) :
    ∃ w1, (Instr.mapUpdate 114 (.map (some eb)) (.agg #[.int .i64 O.site, .int .i64 O.seq, .int .i64 0]) (.int .i64 nn)).run Tryz.prog w = .ok () w1 ∧ MapE w1 eb (l ++ [O]).length (edV (l ++ [O])) ∧ w.grownBy w1 (some eb) := by
  have hf : El.fit ⟨O.site, O.seq, 0⟩ := by unfold El.fit in64; simp only; omega
  obtain ⟨w1, h1, h2, h3⟩ := h.store (t := 114) Tryz.underlying114 (by simp only [maxLen]; omega) ⟨O.site, O.seq, 0⟩ hf (.int .i64 nn)
  refine ⟨w1, h1, ?_, h3⟩
  rw [List.length_append, List.length_singleton]
  have e : edV (l ++ [O]) = fun x => if x = ⟨O.site, O.seq, 0⟩ then some (.int .i64 (nn : Int)) else edV l x := by
    funext x
    unfold edV
    rw [ed_snoc, hn]
    by_cases hx : x = ⟨O.site, O.seq, 0⟩
    · rw [if_pos ⟨hk, hx⟩, if_pos hx]; rfl
    · rw [if_neg (fun h => hx h.2), if_neg hx]
  rw [e]
  exact h2
theorem take_map_no {eb : Nat} {l : List OpD} {O : OpD} {w : World} (h : MapE w eb l.length (edV l)) (hk : ¬ O.kind = 1) : MapE w eb (l ++ [O]).length (edV (l ++ [O])) := by
  have e : edV (l ++ [O]) = edV l := by
    funext x
    unfold edV
    rw [ed_snoc, if_neg (fun h => hk h.1)]
  rw [e]
  exact h.mono (by simp)
theorem take_end {w12 w13 : World} {base AB eb : Nat} {l : List OpD} {O : OpD} (h : w12.heap[AB]? = some (.cells (ahCells eb (l ++ [O])) 158 (0, 0))) (hM : MapE w13 eb (l ++ [O]).length (edV (l ++ [O]))) (hg : w12.grownBy w13 (some eb)) (hne : eb ≠ AB) (hge : base ≤ eb ∧ base ≤ AB) : AhAt w13 base AB eb (l ++ [O]) :=
  ⟨(hg.block AB (Array.getElem?_eq_some_iff.1 h).1 (by simp; exact Ne.symm hne)).trans h, hM, hne, hge⟩
theorem take_keep {w w12 : World} {AB eb bx : Nat} {s q : Int} (hb : Below w.heap.size w w12) (hbx : bx < w.heap.size) (hab : AB < w.heap.size) (h0 : w.cell? ⟨bx, 0, none⟩ = some (.int .i64 s)) (h1 : w.cell? ⟨bx, 1, none⟩ = some (.int .i64 q)) (h2 : w.cell? ⟨AB, 0, none⟩ = some (.map (some eb))) :
    w12.cell? ⟨bx, 0, none⟩ = some (.int .i64 s) ∧ w12.cell? ⟨bx, 1, none⟩ = some (.int .i64 q) ∧ bx < w12.heap.size ∧ w12.cell? ⟨AB, 0, none⟩ = some (.map (some eb)) :=
  ⟨(hb.cell (p := ⟨bx, 0, none⟩) hbx).trans h0, (hb.cell (p := ⟨bx, 1, none⟩) hbx).trans h1, Nat.lt_of_lt_of_le hbx hb.size, (hb.cell (p := ⟨AB, 0, none⟩) hab).trans h2⟩
set_option maxRecDepth 100000 in
set_option maxHeartbeats 8000000 in
theorem tTake_any (base AB eb : Nat) (l : List OpD) (o : OpD) (a : Option Addr) (cap : Nat) (w : World) (h : AhAt w base AB eb l) (hi : OpIn w o a) (hl : l.length ≤ 40) (htot : tot l ≤ 200) :
    Calls Tryz.prog 115 #[.pointer (some ⟨AB, 0, none⟩), o.v a cap] w (TakePost base AB eb l o w) := by
  have hbw : Below w.heap.size w (w.alloc (o.obj a cap)) := (Below.refl _ _).alloc (Nat.le_refl _) _
  have HST := Lib.hid (show TSt base AB eb l o a cap w.heap.size w (w.alloc (o.obj a cap)) from ⟨h.below hbw, BoxO.new w o a cap, hi.gone.below hbw, hbw⟩)
  have HBS := Lib.hid (show base ≤ w.heap.size from by have := h.ge.1; have := h.lt.2; omega)
  have hgl := hi.len
  have hts := hi.size
  have habw := h.lt.1
  clear h hi hbw
  cases hok : okOp o
  · have HNO := Lib.hid (show tk l o = false from by unfold tk; rw [hok]; rfl)
    have HC := Lib.hid (xNeeds_bad o a cap _ (HST.out.opin hgl hts) hok)
    obtain ⟨site, seq, kind, ⟨es, eq, ei⟩, text, gone, of, num, gen⟩ := o
    unfold OpD.obj OpD.v at *
    simp only at HC HST
    go_enter Tryz.func115, Tryz.ntmps115
    go_wp2_with (first | (go_at_call 130; refine HC.out.mono ?_; rintro x1 w1 ⟨rfl, hb1⟩; have HS1 := Lib.hid (HST.out.step hb1); clear hb1) | fail)
    go_quiet (fail)
    go_wp2
    go_ret
    exact take_no HNO.out ((HS1.out.step ((Same.drewN w1 nq).below _)).below) HBS.out
  · have HN := Lib.hid (tNeeds_any o a cap _ (HST.out.opin hgl hts) hok)
    have hnm := okOp_name hok
    have HOK := Lib.hid hok
    have HNF := Lib.hid (needs_fit hok)
    have HN12 := Lib.hid (okOp_text hok).2.1
    have HNLEN := Lib.hid (show (needs o).length ≤ 1000 from Nat.le_trans (needs_len o) (by have := (gone_ok hok).1; omega))
    obtain ⟨sn, hsn⟩ : ∃ sn : Nat, o.site = sn := ⟨o.site.toNat, by omega⟩
    have hcl := cnt_le l o.site
    have HTK := Lib.hid (show tk l o = (decide (o.seq = cnt l o.site + 1) && ((needs o).all (hasN l) && (o.gone.all (Go.Proofs.YthnedehihbploaaGreatDoor.wr l) && ((o.after.begin || Go.Proofs.YthnedehihbploaaGreatDoor.wr l o.after) && decide (tot l + nR o.text ≤ 200))))) from by unfold tk; rw [hok]; rfl)
    have HGO := Lib.hid (gone_ok hok)
    have HAO := Lib.hid (after_ok hok)
    have HEL := Lib.hid (fun wx hx => xElems_ok o a cap wx hx hok)
    clear hok
    generalize hnl : needs o = nl at *
    clear hnl
    have HNX : RowKit.Hid (∀ w1, AhAt w1 base AB eb (l ++ [o]) → tk l o = true → Below base w w1 → TakePost base AB eb l o w (.returned (.bool true)) w1) := Lib.hid (fun w1 hx ht hb => ⟨.inl ⟨ht, rfl, hx⟩, hb⟩)
    have HNO : RowKit.Hid (∀ w1, tk l o = false → TSt base AB eb l o a cap w.heap.size w w1 → TakePost base AB eb l o w (.returned (.bool false)) w1) := Lib.hid (fun w1 ht hx => take_no ht hx.below HBS.out)
    obtain ⟨site, seq, kind, ⟨es, eq, ei⟩, text, gone, of, num, gen⟩ := o
    simp only at hsn hnm hcl hgl hts
    subst hsn
    unfold OpD.obj at HST
    unfold OpD.v at HN HEL ⊢
    simp only at HST HN HTK HEL HAO HGO ⊢
    obtain ⟨cs, hcs⟩ : ∃ cs : Nat, cnt l sn = cs := ⟨_, rfl⟩
    rw [hcs] at hcl HTK
    have HCS := Lib.hid hcs
    clear hcs
    go_enter Tryz.func115, Tryz.ntmps115
    go_wp2_with (first | (go_at_call 130; refine HN.out.mono ?_; rintro x1 w1 ⟨a1, c1, rfl, hown1, hb1⟩; have HS1 := Lib.hid (HST.out.step hb1); obtain ⟨a1', c1', hv1, hel1, _⟩ := elems_own hown1; simp only [Value.slice.injEq, true_and] at hv1; obtain ⟨rfl, _⟩ := hv1; have HL1 := Lib.hid hel1; obtain ⟨m0, m1, _, hct⟩ := HS1.out.ah.cell; have q1 := HS1.out.bx.c1; have q0 := HS1.out.bx.c0; have ct := hct sn (by omega); rw [HCS.out] at ct; have hab := HS1.out.ah.lt.1; have hbx := HS1.out.bx.lt; clear hb1 hown1 hel1 hct) | fail)
    by_cases hseq : seq = (cs : Int) + 1
    · go_quiet (fail)
      have HS2 := Lib.hid (HS1.out.step ((Same.drewN w1 nq).below _))
      have HL2 := Lib.hid (HL1.out.below ((Same.drewN w1 nq).below _))
      rw [decide_eq_true hseq, Bool.true_and] at HTK
      have HSEQ := Lib.hid hseq
      clear hseq
      clear m0 m1 q1 q0 ct hab hbx HS1 HL1 HST HN
      generalize w1.drewN nq = w2 at *
      obtain ⟨n, hnn⟩ : ∃ n, nl.length = n := ⟨_, rfl⟩
      rw [hnn]
      have HNN := Lib.hid hnn
      clear hnn
      go_wp2_with fail
      have hn9 : n ≤ 1000 := by have := HNLEN.out; rw [HNN.out] at this; exact this
      go_loopw [34] (fun s34 wr => ∃ k : Nat, s34 = .int .i64 k ∧ k ≤ n ∧ TSt base AB eb l ⟨sn, seq, kind, ⟨es, eq, ei⟩, text, gone, of, num, gen⟩ a cap w.heap.size w wr ∧ ElemsAt wr a1 nl ∧ ∀ j, j < k → (nl[j]?.all (hasN l)) = true) (fun s34 _ => n - (RowKit.intOf s34).toNat)
      case atStart => exact ⟨0, rfl, Nat.zero_le _, HS2.out, HL2.out, fun j hj => absurd hj (by omega)⟩
      case round =>
        obtain ⟨k, rfl, hk, hts2, hel2, hall⟩ := hrel
        have HALL := Lib.hid hall
        have HTS := Lib.hid hts2
        clear hall HS2 HL2
        by_cases hlt : k < n
        · have hkl : k < nl.length := by rw [HNN.out]; exact hlt
          obtain ⟨b, off, rfl, hbb, x0, x1, x2⟩ := hel2.cell k hkl
          have hfit := HNF.out nl[k] (List.getElem_mem hkl)
          have HG := Lib.hid (show nl[k]? = some nl[k] from List.getElem?_eq_getElem hkl)
          have hbx := BoxE.new wr nl[k]
          have hbl1 : Below wr.heap.size wr (wr.alloc (.cells #[.int .i64 nl[k].s, .int .i64 nl[k].q, .int .i64 nl[k].i] 37)) := (Below.refl _ _).alloc (Nat.le_refl _) _
          have HTS1 := Lib.hid (hts2.step hbl1)
          have HEL1 := Lib.hid (hel2.below hbl1)
          generalize nl[k] = e at *
          have hlk := fun d os => ((HTS1.out.step (below_regrown _ d os)).ah).look e hfit true
          have hhe : ∃ b, hasN l e = b := ⟨_, rfl⟩
          obtain ⟨s, q, i⟩ := e
          simp only at x0 x1 x2 hbx hlk HTS1 HEL1
          have e0 := cell_regrown hbx.c0
          have e1 := cell_regrown hbx.c1
          have e2 := cell_regrown hbx.c2
          have m0 := cell_regrown HTS1.out.ah.cell.1
          have hbs := hbx.lt
          have hAB := HTS1.out.ah.lt.1
          clear hts2 hel2 hbx hbl1 hkl hfit hhe
          generalize (ed l ⟨s, q, i⟩).getD 0 = c at *
          have HHN := Lib.hid (show hasN l ⟨s, q, i⟩ = hasN l ⟨s, q, i⟩ from rfl)
          cases hb : hasN l ⟨s, q, i⟩
          · rw [hb] at hlk
            have HB := Lib.hid hb
            clear hb HHN
            go_wp2_with fail
            generalize (wr.alloc (.cells #[.int .i64 s, .int .i64 q, .int .i64 i] 37)) = wu at *
            refine wp_region_quiet_below (by kernel_rfl) (by kernel_rfl) ?_
            repeat (first | go_big_quiet_step (fail) | quiet_step (fail))
            refine wpQuiet_nil ?_
            intro _ hw'
            obtain ⟨⟨dq, osq⟩, hw''⟩ := hw'
            subst hw''
            have HTS2 := Lib.hid (HTS1.out.step (below_regrown wu dq osq))
            clear e0 e1 e2 m0 hlk
            generalize Sort.grow (redrawn wu dq) osq = wv at *
            go_wp2
            go_ret
            refine HNO.out _ ?_ HTS2.out
            rw [HTK.out]
            have : nl.all (hasN l) = false := Bool.eq_false_iff.2 (fun h => by
              rw [List.all_eq_true] at h
              have := h _ (List.mem_of_getElem? HG.out)
              rw [HB.out] at this
              cases this)
            rw [this]
            rfl
          · rw [hb] at hlk
            have HB := Lib.hid hb
            clear hb HHN
            go_wp2_with fail
            generalize (wr.alloc (.cells #[.int .i64 s, .int .i64 q, .int .i64 i] 37)) = wu at *
            refine wp_region_quiet_below (by kernel_rfl) (by kernel_rfl) ?_
            repeat (first | go_big_quiet_step (fail) | quiet_step (fail))
            refine wpQuiet_nil ?_
            intro _ hw'
            obtain ⟨⟨dq, osq⟩, hw''⟩ := hw'
            subst hw''
            have HTS2 := Lib.hid (HTS1.out.step (below_regrown wu dq osq))
            have HEL2 := Lib.hid (HEL1.out.below (below_regrown wu dq osq))
            clear e0 e1 e2 m0 hlk
            generalize Sort.grow (redrawn wu dq) osq = wv at *
            go_wp2
            go_roundw
            case rel =>
              exact ⟨k + 1, by go_num, by omega, HTS2.out, HEL2.out, fun j hj => by
                by_cases hjk : j = k
                · rw [hjk, HG.out]; exact HB.out
                · exact HALL.out j (by omega)⟩
            case measure => simp [RowKit.intOf]; omega
        · have h0 : k = n := by omega
          have hall2 : nl.all (hasN l) = true := by
            rw [List.all_eq_true]
            intro e hm
            obtain ⟨j, hj, rfl⟩ := List.getElem_of_mem hm
            have := HALL.out j (by rw [h0, ← HNN.out]; exact hj)
            rw [List.getElem?_eq_getElem hj] at this
            exact this
          rw [hall2, Bool.true_and] at HTK
          clear hts2 hel2 hall2
          have hgw := tWrote_any base AB eb l a cap gone wr HTS.out.ah HTS.out.gn HGO.out.2 (by have := HGO.out.1; omega)
          have hbx := HTS.out.bx
          have p3 := hbx.c3
          have p4 := hbx.c4
          have p5 := hbx.c5
          have p7 := hbx.c7
          have hbl := hbx.lt
          clear hbx
          cases hb1 : gone.all (Go.Proofs.YthnedehihbploaaGreatDoor.wr l)
          · rw [hb1] at hgw
            have HGW := Lib.hid hgw
            have HF := Lib.hid (show tk l ⟨sn, seq, kind, ⟨es, eq, ei⟩, text, gone, of, num, gen⟩ = false from by rw [HTK.out, hb1]; rfl)
            clear hgw hb1
            go_wp2_with (first | (go_at_call 131; refine HGW.out.mono ?_; rintro x3 w3 ⟨rfl, hb3⟩; have HS3 := Lib.hid (HTS.out.step hb3); clear hb3) | fail)
            go_ret
            exact HNO.out _ HF.out HS3.out
          · rw [hb1] at hgw
            rw [hb1, Bool.true_and] at HTK
            have HGW := Lib.hid hgw
            clear hgw hb1
            cases hbg : (⟨es, eq, ei⟩ : El).begin
            · have hob : ∃ b, Go.Proofs.YthnedehihbploaaGreatDoor.wr l ⟨es, eq, ei⟩ = b := ⟨_, rfl⟩
              clear hob
              rw [hbg, Bool.false_or] at HTK
              have HBG := Lib.hid (fun wx => (by have h := tBegin_any ⟨es, eq, ei⟩ wx; rw [hbg] at h; exact h : Calls Tryz.prog 132 #[El.v ⟨es, eq, ei⟩] wx (BoB false wx)))
              have HWA := Lib.hid (fun wx (hx : AhAt wx base AB eb l) => tWrote_any base AB eb l (some ⟨wx.heap.size, 0, none⟩) 1 [⟨es, eq, ei⟩] _ (hx.below ((Below.refl wx.heap.size wx).alloc (Nat.le_refl _) (.cells #[.int .i64 es, .int .i64 eq, .int .i64 ei] 37))) (elems_one wx ⟨es, eq, ei⟩) (fun e he => by rw [List.mem_singleton.1 he]; exact HAO.out) (by simp))
              simp only [List.all_cons, List.all_nil, Bool.and_true, List.length_singleton] at HWA
              unfold El.v at HBG
              simp only at HBG
              cases hb2 : Go.Proofs.YthnedehihbploaaGreatDoor.wr l ⟨es, eq, ei⟩
              · rw [hb2] at HWA
                have HF := Lib.hid (show tk l ⟨sn, seq, kind, ⟨es, eq, ei⟩, text, gone, of, num, gen⟩ = false from by rw [HTK.out, hb2]; rfl)
                clear hb2 hbg
                go_wp2_with (first
                  | (go_at_call_has 131 (Value.slice a gone.length cap); refine HGW.out.mono ?_; rintro x3 w3 ⟨rfl, hb3⟩; have HS3 := Lib.hid (HTS.out.step hb3); have hbx := HS3.out.bx; have q3 := hbx.c3; have q4 := hbx.c4; have q5 := hbx.c5; have hql := hbx.lt; clear hb3 hbx)
                  | (go_at_call 132; refine (HBG.out w3).mono ?_; rintro x4 w4 ⟨rfl, hb4⟩; have HS4 := Lib.hid (HS3.out.step hb4); have hbx := HS4.out.bx; have r3 := hbx.c3; have r4 := hbx.c4; have r5 := hbx.c5; have hrl := hbx.lt; clear hb4 hbx)
                  | (go_at_call 131; refine (HWA.out w4 HS4.out.ah).mono ?_; rintro x9 w9 ⟨rfl, hb9⟩; have HS9 := Lib.hid ((HS4.out.step ((Below.refl _ _).alloc (Nat.le_refl _) _)).step hb9); clear hb9)
                  | fail)
                go_ret
                exact HNO.out _ HF.out HS9.out
              · rw [hb2] at HWA
                rw [hb2, Bool.true_and] at HTK
                clear hb2 hbg
                go_upto_region 13 with (first
                  | (go_at_call_has 131 (Value.slice a gone.length cap); refine HGW.out.mono ?_; rintro x3 w3 ⟨rfl, hb3⟩; have HS3 := Lib.hid (HTS.out.step hb3); have hbx := HS3.out.bx; have q3 := hbx.c3; have q4 := hbx.c4; have q5 := hbx.c5; have hql := hbx.lt; clear hb3 hbx)
                  | (go_at_call 132; refine (HBG.out w3).mono ?_; rintro x4 w4 ⟨rfl, hb4⟩; have HS4 := Lib.hid (HS3.out.step hb4); have hbx := HS4.out.bx; have r3 := hbx.c3; have r4 := hbx.c4; have r5 := hbx.c5; have hrl := hbx.lt; clear hb4 hbx)
                  | (go_at_call 131; refine (HWA.out w4 HS4.out.ah).mono ?_; rintro x9 w9 ⟨rfl, hb9⟩; have HS9 := Lib.hid ((HS4.out.step ((Below.refl _ _).alloc (Nat.le_refl _) _)).step hb9); clear hb9)
                  | fail)
                obtain ⟨ul, u0, u1, u2, u3, u4x, u5, u6, u7, u8x, u9x, u10x⟩ := HS9.out.bx
                have HE9 := Lib.hid (HEL.out w9 (HS9.out.opin hgl hts))
                obtain ⟨nn, hnn⟩ : ∃ nn, nR text = nn := ⟨_, rfl⟩
                rw [hnn] at HTK HE9
                have HNN2 := Lib.hid hnn
                clear hnn
                go_upto_region 14 with (first
                  | (go_at_call 119; refine HE9.out.mono ?_; rintro x10 w10 ⟨a10, c10, rfl, hown10, hb10⟩; have HS10 := Lib.hid (HS9.out.step hb10); simp only [mine_length] at hown10 ⊢; obtain ⟨v0, v10, vfz, vct⟩ := HS10.out.ah.cell; have vc := vct sn (by omega); rw [HCS.out] at vc; have hbx := HS10.out.bx; have b0 := hbx.c0; have b1 := hbx.c1; have b2 := hbx.c2; have hbl10 := hbx.lt; have hAB10 := HS10.out.ah.lt.1; have z0 := vfz (1 + sn); have z1 := vfz 10; clear hb10 hown10 vct vfz hbx ul u0 u1 u2 u3 u4x u5 u6 u7 u8x u9x u10x)
                  | fail)
                by_cases hfit : tot l + nn ≤ 200
                · have hfi : ((tot l : Int) + (nn : Int)) ≤ 200 := by omega
                  have HTF := Lib.hid (show tk l ⟨sn, seq, kind, ⟨es, eq, ei⟩, text, gone, of, num, gen⟩ = true from by rw [HTK.out, decide_eq_true hfit])
                  have hne : ¬ (1 + sn = 10) := by omega
                  have HABW := Lib.hid (show AB < w.heap.size from habw)
                  clear hfit
                  go_upto_region 16 with fail
                  go_region
                  go_upto_region 18 with fail
                  have htc := take_count (sn := sn) HS10.out rfl (by omega) (by omega) HNN2.out HCS.out HABW.out HBS.out
                  generalize ((w10.setCell ⟨AB, 1 + sn, none⟩ (.int .i64 ((cs : Int) + 1))).setCell ⟨AB, 10, none⟩ (.int .i64 ((tot l : Int) + (nn : Int)))).drew = w11 at *
                  obtain ⟨hbox, hmap, hbel, k0, k1, k2, hkl, hk9, hk10⟩ := htc
                  have HBOX := Lib.hid hbox
                  have HMAP := Lib.hid hmap
                  have HBEL := Lib.hid hbel
                  clear v0 v10 vc b0 b1 b2 z0 z1 hbl10 hbox hmap hbel
                  by_cases hkd : kind = 1
                  · have HMU := Lib.hid (fun wx (hx : MapE wx eb l.length (edV l)) => take_map (O := ⟨sn, seq, kind, ⟨es, eq, ei⟩, text, gone, of, num, gen⟩) hx hkd (by simp only; omega) (by simp only; omega) HNN2.out hl)
                    have HNG := Lib.hid (show eb ≠ AB ∧ base ≤ eb ∧ base ≤ AB from ⟨HS10.out.ah.ne, HS10.out.ah.ge⟩)
                    subst hkd
                    go_upto_region 19 with fail
                    go_region_law (first
                      | (go_simp; go_at_call 133; (refine (tName_any _ _ _).mono ?_; rintro x12 w12 ⟨rfl, hb12⟩; obtain ⟨j0, j1, hjl, j9⟩ := take_keep hb12 hkl hk9 k0 k1 hk10; have HM12 := Lib.hid (HMAP.out.kept (hb12.block eb HMAP.out.lt)); have HX12 := Lib.hid ((hb12.block AB hk9).trans HBOX.out); have HB12 := Lib.hid (HBEL.out.trans ⟨hb12.os, hb12.tape, hb12.output, hb12.size, fun j hj => hb12.block j (show j < w11.heap.size from by have := HNG.out.2.2; omega)⟩); obtain ⟨w13, hr13, hM13, hg13⟩ := HMU.out w12 HM12.out; try simp only at hr13; have HM13 := Lib.hid hM13; have HG13 := Lib.hid hg13; clear hb12 hM13 hg13))
                      | fail)
                    all_goals
                      go_wp2_with fail
                      go_ret
                      exact HNX.out _ (take_end HX12.out HM13.out HG13.out HNG.out.1 HNG.out.2) HTF.out (HB12.out.grown HG13.out (by have := HNG.out.2.2; have := HB12.out.size; have := HBS.out; omega) (fun j hj => by cases hj; exact HNG.out.2.1))
                  · have HNG := Lib.hid (show eb ≠ AB ∧ base ≤ eb ∧ base ≤ AB from ⟨HS10.out.ah.ne, HS10.out.ah.ge⟩)
                    have HM13 := Lib.hid (take_map_no (O := ⟨sn, seq, kind, ⟨es, eq, ei⟩, text, gone, of, num, gen⟩) HMAP.out hkd)
                    go_wp2_with fail
                    go_ret
                    exact HNX.out _ ⟨HBOX.out, HM13.out, HNG.out.1, HNG.out.2⟩ HTF.out HBEL.out
                · have hfi : (200 : Int) < ((tot l : Int) + (nn : Int)) := by omega
                  have hn12 := HN12.out
                  rw [HNN2.out] at hn12
                  have HF := Lib.hid (show tk l ⟨sn, seq, kind, ⟨es, eq, ei⟩, text, gone, of, num, gen⟩ = false from by rw [HTK.out, decide_eq_false hfit])
                  go_wp2_with fail
                  go_ret
                  exact HNO.out _ HF.out HS10.out
            · rw [hbg, Bool.true_or, Bool.true_and] at HTK
              have HBG := Lib.hid (fun wx => (by have h := tBegin_any ⟨es, eq, ei⟩ wx; rw [hbg] at h; exact h : Calls Tryz.prog 132 #[El.v ⟨es, eq, ei⟩] wx (BoB true wx)))
              unfold El.v at HBG
              simp only at HBG
              clear hbg
              go_upto_region 13 with (first
                | (go_at_call 131; refine HGW.out.mono ?_; rintro x3 w3 ⟨rfl, hb3⟩; have HS3 := Lib.hid (HTS.out.step hb3); have hbx := HS3.out.bx; have q3 := hbx.c3; have q4 := hbx.c4; have q5 := hbx.c5; have hql := hbx.lt; clear hb3 hbx)
                | (go_at_call 132; refine (HBG.out w3).mono ?_; rintro x9 w9 ⟨rfl, hb9⟩; have HS9 := Lib.hid (HS3.out.step hb9); clear hb9)
                | fail)
              obtain ⟨ul, u0, u1, u2, u3, u4x, u5, u6, u7, u8x, u9x, u10x⟩ := HS9.out.bx
              have HE9 := Lib.hid (HEL.out w9 (HS9.out.opin hgl hts))
              obtain ⟨nn, hnn⟩ : ∃ nn, nR text = nn := ⟨_, rfl⟩
              rw [hnn] at HTK HE9
              have HNN2 := Lib.hid hnn
              clear hnn
              go_upto_region 14 with (first
                | (go_at_call 119; refine HE9.out.mono ?_; rintro x10 w10 ⟨a10, c10, rfl, hown10, hb10⟩; have HS10 := Lib.hid (HS9.out.step hb10); simp only [mine_length] at hown10 ⊢; obtain ⟨v0, v10, vfz, vct⟩ := HS10.out.ah.cell; have vc := vct sn (by omega); rw [HCS.out] at vc; have hbx := HS10.out.bx; have b0 := hbx.c0; have b1 := hbx.c1; have b2 := hbx.c2; have hbl10 := hbx.lt; have hAB10 := HS10.out.ah.lt.1; have z0 := vfz (1 + sn); have z1 := vfz 10; clear hb10 hown10 vct vfz hbx ul u0 u1 u2 u3 u4x u5 u6 u7 u8x u9x u10x)
                | fail)
              by_cases hfit : tot l + nn ≤ 200
              · have hfi : ((tot l : Int) + (nn : Int)) ≤ 200 := by omega
                have HTF := Lib.hid (show tk l ⟨sn, seq, kind, ⟨es, eq, ei⟩, text, gone, of, num, gen⟩ = true from by rw [HTK.out, decide_eq_true hfit])
                have hne : ¬ (1 + sn = 10) := by omega
                have HABW := Lib.hid (show AB < w.heap.size from habw)
                clear hfit
                go_upto_region 16 with fail
                go_region
                go_upto_region 18 with fail
                have htc := take_count (sn := sn) HS10.out rfl (by omega) (by omega) HNN2.out HCS.out HABW.out HBS.out
                generalize ((w10.setCell ⟨AB, 1 + sn, none⟩ (.int .i64 ((cs : Int) + 1))).setCell ⟨AB, 10, none⟩ (.int .i64 ((tot l : Int) + (nn : Int)))).drew = w11 at *
                obtain ⟨hbox, hmap, hbel, k0, k1, k2, hkl, hk9, hk10⟩ := htc
                have HBOX := Lib.hid hbox
                have HMAP := Lib.hid hmap
                have HBEL := Lib.hid hbel
                clear v0 v10 vc b0 b1 b2 z0 z1 hbl10 hbox hmap hbel
                by_cases hkd : kind = 1
                · have HMU := Lib.hid (fun wx (hx : MapE wx eb l.length (edV l)) => take_map (O := ⟨sn, seq, kind, ⟨es, eq, ei⟩, text, gone, of, num, gen⟩) hx hkd (by simp only; omega) (by simp only; omega) HNN2.out hl)
                  have HNG := Lib.hid (show eb ≠ AB ∧ base ≤ eb ∧ base ≤ AB from ⟨HS10.out.ah.ne, HS10.out.ah.ge⟩)
                  subst hkd
                  go_upto_region 19 with fail
                  go_region_law (first
                    | (go_simp; go_at_call 133; (refine (tName_any _ _ _).mono ?_; rintro x12 w12 ⟨rfl, hb12⟩; obtain ⟨j0, j1, hjl, j9⟩ := take_keep hb12 hkl hk9 k0 k1 hk10; have HM12 := Lib.hid (HMAP.out.kept (hb12.block eb HMAP.out.lt)); have HX12 := Lib.hid ((hb12.block AB hk9).trans HBOX.out); have HB12 := Lib.hid (HBEL.out.trans ⟨hb12.os, hb12.tape, hb12.output, hb12.size, fun j hj => hb12.block j (show j < w11.heap.size from by have := HNG.out.2.2; omega)⟩); obtain ⟨w13, hr13, hM13, hg13⟩ := HMU.out w12 HM12.out; try simp only at hr13; have HM13 := Lib.hid hM13; have HG13 := Lib.hid hg13; clear hb12 hM13 hg13))
                    | fail)
                  all_goals
                    go_wp2_with fail
                    go_ret
                    exact HNX.out _ (take_end HX12.out HM13.out HG13.out HNG.out.1 HNG.out.2) HTF.out (HB12.out.grown HG13.out (by have := HNG.out.2.2; have := HB12.out.size; have := HBS.out; omega) (fun j hj => by cases hj; exact HNG.out.2.1))
                · have HNG := Lib.hid (show eb ≠ AB ∧ base ≤ eb ∧ base ≤ AB from ⟨HS10.out.ah.ne, HS10.out.ah.ge⟩)
                  have HM13 := Lib.hid (take_map_no (O := ⟨sn, seq, kind, ⟨es, eq, ei⟩, text, gone, of, num, gen⟩) HMAP.out hkd)
                  go_wp2_with fail
                  go_ret
                  exact HNX.out _ ⟨HBOX.out, HM13.out, HNG.out.1, HNG.out.2⟩ HTF.out HBEL.out
              · have hfi : (200 : Int) < ((tot l : Int) + (nn : Int)) := by omega
                have hn12 := HN12.out
                rw [HNN2.out] at hn12
                have HF := Lib.hid (show tk l ⟨sn, seq, kind, ⟨es, eq, ei⟩, text, gone, of, num, gen⟩ = false from by rw [HTK.out, decide_eq_false hfit])
                go_wp2_with fail
                go_ret
                exact HNO.out _ HF.out HS10.out
    · go_quiet (fail)
      go_wp2
      go_ret
      exact HNO.out _ (by rw [HTK.out, decide_eq_false hseq]; rfl) (HS1.out.step ((Same.drewN w1 nq).below _))
end Go.Proofs.YthnedehihbploaaGreatDoor
