/- lectionaryref0.CopyOps, EqOps; lectionaryref4.Written; tree.Place, tree.Under of what is none -/
import Derived.Test.YthnedehihbploaaGreatDoorOCopy
import Derived.Test.YthnedehihbploaaGreatDoorROps
import Derived.Test.YthnedehihbploaaGreatDoorRGo
import Derived.Laws.IdiomCopy
namespace Go.Proofs.YthnedehihbploaaGreatDoor
open Go.RowKit Go.Lib Go.Sort

theorem cell_op_newR (w : World) (r : OpR) (t : TypeId) : ∀ j u, (r.cs)[j]? = some u → (w.alloc (.cells #[.int .i64 r.o.site, .int .i64 r.o.seq, .int .i64 r.o.kind, .int .i64 r.o.after.s, .int .i64 r.o.after.q, .int .i64 r.o.after.i, .string r.o.text, .slice r.a r.o.gone.length r.cap, .int .i64 r.o.of, .int .i64 r.o.num, .int .i64 r.o.gen] t)).cell? ((⟨w.heap.size, 0, none⟩ : Addr).add j) = some u := by
  intro j u hu
  rw [Addr.add_lit, Nat.zero_add, World.cell?_alloc_new, ← hu]
  unfold OpR.cs OpD.cs
  simp
theorem cs_oneR (r : OpR) : ∀ u ∈ r.cs, u.oneCell' = true := by
  intro u hu
  unfold OpR.cs OpD.cs at hu
  simp only [List.mem_cons, List.not_mem_nil, or_false] at hu
  rcases hu with rfl | rfl | rfl | rfl | rfl | rfl | rfl | rfl | rfl | rfl | rfl <;> rfl
theorem ElemsAt.kp {w w' : World} {r : Option Nat} {a : Option Addr} {l : List El} (h : ElemsAt w a l) (hk : Kp r w w') (hne : ∀ ad, a = some ad → some ad.block ≠ r) : ElemsAt w' a l :=
  ⟨fun j hj => by
    obtain ⟨b, off, h1, h2, h3, h4, h5⟩ := h.cell j hj
    have hb := hk.block b h2 (hne _ h1)
    have hc : ∀ o, w'.cell? ⟨b, o, none⟩ = w.cell? ⟨b, o, none⟩ := fun o => by unfold World.cell?; simp only [hb]
    exact ⟨b, off, h1, Nat.lt_of_lt_of_le h2 hk.size, (hc _).trans h3, (hc _).trans h4, (hc _).trans h5⟩⟩
theorem OpAt.kp {w w' : World} {r : Option Nat} {o : OpD} {a : Option Addr} {cap : Nat} (h : OpAt w o a cap) (hk : Kp r w w') (hne : ∀ ad, a = some ad → some ad.block ≠ r) : OpAt w' o a cap :=
  ⟨h.gone.kp hk hne, h.len, h.size, h.none⟩
/-- ops of the call's own, and what each holds, elsewhere -/
structure OwnO (base : Nat) (w : World) (v : Value) (L : List OpR) : Prop where
  own : w.ownsRow base 39 11 v L.length (ocs L)
  at_ : ∀ r ∈ L, OpAt w r.o r.a r.cap
  apart : ∀ r ∈ L, ∀ ad, r.a = some ad → some ad.block ≠ v.ownBlock ∧ ad.block < w.heap.size
  ge : ∀ r ∈ L, ∀ ad, r.a = some ad → base ≤ ad.block
theorem OwnO.below {base : Nat} {w w' : World} {v : Value} {L : List OpR} (h : OwnO base w v L) (hb : Below w.heap.size w w') : OwnO base w' v L := ⟨owns_belE h.own hb, fun r hr => (h.at_ r hr).below hb, fun r hr ad ha => ⟨(h.apart r hr ad ha).1, Nat.lt_of_lt_of_le (h.apart r hr ad ha).2 hb.size⟩, h.ge⟩
theorem OwnO.ops {base : Nat} {w : World} {v : Value} {L : List OpR} (h : OwnO base w v L) (hl : L.length ≤ BIG) : ∃ a c, v = .slice a L.length c ∧ OpsAt w a L ∧ L.length ≤ c := ops_own h.own h.at_ hl
theorem OwnO.nil (base : Nat) (w : World) : OwnO base w (.slice none 0 0) [] := ⟨World.ownsRow_nil _ _ _ _, fun r hr => absurd hr (by simp), fun r hr => absurd hr (by simp), fun r hr => absurd hr (by simp)⟩
theorem OwnO.push {base : Nat} {w w8 : World} {v v8 : Value} {L : List OpR} {r : OpR} {o : Obj} (h : OwnO base w v L) (hr : OpAt w r.o r.a r.cap) (hra : ∀ ad, r.a = some ad → some ad.block ≠ v.ownBlock ∧ ad.block < w.heap.size ∧ base ≤ ad.block)
    (ho : w8.ownsRow base 39 11 v8 (L.length + 1) (ocs L ++ r.cs)) (hg : (w.alloc o).grownBy w8 v.ownBlock) (hat : v8.ownBlock = v.ownBlock ∨ v8.ownBlock = some (w.alloc o).heap.size) : OwnO base w8 v8 (L ++ [r]) := by
  have hkp : Kp v.ownBlock w w8 := (Kp.refl v.ownBlock w).step (.inl rfl) hg
  have hap : ∀ ad : Addr, some ad.block ≠ v.ownBlock ∧ ad.block < w.heap.size → some ad.block ≠ v8.ownBlock ∧ ad.block < w8.heap.size := by
    intro ad ⟨h1, h2⟩
    refine ⟨?_, Nat.lt_of_lt_of_le h2 hkp.size⟩
    rcases hat with e | e
    · rw [e]; exact h1
    · rw [e]
      intro e2
      simp at e2
      omega
  refine ⟨?_, fun x hx => ?_, fun x hx ad ha => ?_, fun x hx ad ha => ?_⟩
  · rw [List.length_append, ocs_append, ocs_one]
    exact ho
  · rcases List.mem_append.1 hx with hx | hx
    · exact (h.at_ x hx).kp hkp (fun ad ha => (h.apart x hx ad ha).1)
    · have : x = r := by simpa using hx
      subst this
      exact hr.kp hkp (fun ad ha => (hra ad ha).1)
  · rcases List.mem_append.1 hx with hx | hx
    · exact hap ad (h.apart x hx ad ha)
    · have : x = r := by simpa using hx
      subst this
      exact hap ad ⟨(hra ad ha).1, (hra ad ha).2.1⟩
  · rcases List.mem_append.1 hx with hx | hx
    · exact h.ge x hx ad ha
    · have : x = r := by simpa using hx
      subst this
      exact (hra ad ha).2.2
def CopysPost (l : List OpR) (w : World) (x : Ending) (w' : World) : Prop := ∃ v L, x = .returned v ∧ OwnO w.heap.size w' v L ∧ OpR.os L = OpR.os l ∧ Below w.heap.size w w'
set_option maxRecDepth 100000 in
set_option maxHeartbeats 4000000 in
theorem CopyOps_any (a : Option Addr) (cap : Nat) (l : List OpR) (w : World) (h : OpsAt w a l) (hg : ∀ r ∈ l, r.o.gone.length ≤ 1000000) (hl : l.length ≤ 1000000) : Calls Tryz.prog 18 #[.slice a l.length cap] w (CopysPost l w) := by
  obtain ⟨i0, hq0, hz0, hz1, hz2⟩ := info_parts Tryz.infoOp
  have HH := Lib.hid h
  have HG := Lib.hid hg
  obtain ⟨n, hn⟩ : ∃ n, l.length = n := ⟨_, rfl⟩
  have HN := Lib.hid hn
  rw [hn] at hl ⊢
  clear h hg hn
  go_enter Tryz.func18, Tryz.ntmps18
  go_wp2_with fail
  go_loopw [3, 4] (fun s3 s4 wr => ∃ (k : Nat) (L : List OpR), s4 = .int .i64 k ∧ k ≤ n ∧ L.length = k ∧ OwnO w.heap.size wr s3 L ∧ OpR.os L = (OpR.os l).take k ∧ Below w.heap.size w wr) (fun _ s4 _ => n - (RowKit.intOf s4).toNat)
  case atStart => exact ⟨0, [], rfl, Nat.zero_le _, rfl, OwnO.nil _ _, by simp [OpR.os], Below.refl _ _⟩
  case round =>
    obtain ⟨k, L, rfl, hk, hL, ho, hos, hb⟩ := hrel
    have HO := Lib.hid ho
    have HOS := Lib.hid hos
    have HB := Lib.hid hb
    have HL := Lib.hid hL
    by_cases hlt : k < n
    · have hkl : k < l.length := by rw [HN.out]; exact hlt
      obtain ⟨b, off, rfl, hbb, c0, c1, c2, c3, c4, c5, c6, c7, c8, c9, ca⟩ := (HH.out.below hb).cells k hkl
      have hoa := (HH.out.below hb).op k hkl
      have HCP := Lib.hid (CopyOp_any l[k].o l[k].a l[k].cap wr hoa.gone (HG.out _ (List.getElem_mem hkl)))
      have HSZ := Lib.hid hoa.size
      have HGL := Lib.hid hoa.len
      have HTK := Lib.hid (show (OpR.os l).take (k + 1) = (OpR.os l).take k ++ [l[k].o] from by rw [List.take_succ_eq_append_getElem (by rw [os_len]; exact hkl)]; simp [OpR.os])
      have HM1 := Lib.hid (show k + 1 ≤ maxLen from by simp only [maxLen]; omega)
      have HM2 := Lib.hid (show (k + 1) * 112 ≤ 140737488355328 from by omega)
      clear ho hos hb hL hoa
      generalize l[k] = r at *
      clear hkl
      obtain ⟨⟨site, seq, kind, ⟨es, eq, ei⟩, text, gone, of, num, gen⟩, ra, rc⟩ := r
      unfold CopyPost OpD.v at HCP
      simp only at c0 c1 c2 c3 c4 c5 c6 c7 c8 c9 ca HCP HSZ HGL HTK
      obtain ⟨g, hgg⟩ : ∃ g, gone.length = g := ⟨_, rfl⟩
      have HGG := Lib.hid hgg
      rw [hgg] at HCP c7
      clear hgg
      go_wp2_with (first
        | (go_at_call 52; refine HCP.out.mono ?_; rintro x5 w5 ⟨a5, cp5, rfl, hown5, hb5⟩; obtain ⟨a6, c6', hv6, hel6, _, _, hnone6⟩ := elems_own (by rw [HGG.out]; exact hown5); rw [HGG.out] at hv6; simp only [Value.slice.injEq] at hv6; obtain ⟨rfl, -, rfl⟩ := hv6; have HE6 := Lib.hid hel6; have HNO6 := Lib.hid hnone6; have HAP5 := Lib.hid (show ∀ ad, a5 = some ad → some ad.block ≠ u3.ownBlock ∧ ad.block < w5.heap.size ∧ w.heap.size ≤ ad.block from fun ad ha => by subst ha; have h9 := hown5.lt ad.block rfl; refine ⟨fun e2 => ?_, h9.2, by have := HB.out.size; omega⟩; have := (HO.out.own.lt _ e2.symm).2; omega); have HB5 := Lib.hid (HB.out.trans (hb5.mono HB.out.size)); have HO5 := Lib.hid (HO.out.below hb5); have HOW5 := Lib.hid (show w5.ownsRow w.heap.size 39 11 _ k (ocs L) from by have h9 := HO5.out.own; rw [HL.out] at h9; exact h9); clear hown5 hb5 hel6 hnone6)
        | (at_builtin; refine wpList_append_own_at _ rfl _ _ 24 rfl w.heap.size 39 i0 (.agg #[.int .i64 0, .int .i64 0, .int .i64 0, .int .i64 0, .int .i64 0, .int .i64 0, .string ⟨#[]⟩, .slice none 0 0, .int .i64 0, .int .i64 0, .int .i64 0]) 11 112 Tryz.underlying24 hq0 hz0 hz1 hz2 rfl (by decide) _ k _ rfl (HOW5.out.alloc _) ⟨w5.heap.size, 0, none⟩ 1 1 (OpR.cs ⟨⟨site, seq, kind, ⟨es, eq, ei⟩, text, gone, of, num, gen⟩, a5, cp5⟩) rfl rfl (by have h9 := cell_op_newR w5 ⟨⟨site, seq, kind, ⟨es, eq, ei⟩, text, gone, of, num, gen⟩, a5, cp5⟩ 39; simp only [HGG.out] at h9; exact h9) (cs_oneR _) HM1.out HM2.out (by have := HB5.out.size; simp; omega) ?_; intro v8 w8 hown8 hgrow8 hnil8 hat8; have HB8 := Lib.hid ((HB5.out.alloc HB5.out.size _).grown hgrow8 (by have := HB5.out.size; simp; omega) (fun q hq => own_ge HOW5.out q hq)); have HO8 := Lib.hid (HO5.out.push (r := ⟨⟨site, seq, kind, ⟨es, eq, ei⟩, text, gone, of, num, gen⟩, a5, cp5⟩) ⟨HE6.out, HGL.out, HSZ.out, HNO6.out⟩ HAP5.out (by rw [HL.out]; exact hown8) hgrow8 hat8); clear hown8 hgrow8 hnil8 hat8)
        | fail)
      go_roundw
      case rel => exact ⟨k + 1, _, by go_num, by omega, by rw [List.length_append, HL.out]; rfl, HO8.out, by rw [HTK.out, ← HOS.out]; simp [OpR.os], HB8.out⟩
      case measure => simp [RowKit.intOf] <;> omega
    · have HF := Lib.hid (show (OpR.os l).take k = OpR.os l from List.take_of_length_le (by rw [os_len, HN.out]; omega))
      clear ho hos hb hL
      go_wp2_with fail
      go_ret
      exact ⟨_, L, rfl, HO.out, HOS.out.trans HF.out, HB.out⟩
end Go.Proofs.YthnedehihbploaaGreatDoor
/- lectionaryref0.EqOps on equal rows; lectionaryref4.Written; tree.Place and tree.Under of what is none -/
namespace Go.Proofs.YthnedehihbploaaGreatDoor
open Go.RowKit Go.Lib Go.Sort

set_option maxRecDepth 100000 in
set_option maxHeartbeats 4000000 in
theorem EqOps_yes (a b : Option Addr) (ca cb : Nat) (la lb : List OpR) (w : World) (ha : OpsAt w a la) (hb : OpsAt w b lb) (hos : OpR.os la = OpR.os lb) (hg : ∀ r ∈ la, r.o.gone.length ≤ 1000000) (hl : la.length ≤ 1000000) : Calls Tryz.prog 29 #[.slice a la.length ca, .slice b lb.length cb] w (BoB true w) := by
  have hlen : la.length = lb.length := by rw [← os_len la, ← os_len lb, hos]
  have HA := Lib.hid ha
  have HB := Lib.hid hb
  have HG := Lib.hid hg
  have HEQ := Lib.hid (fun k (h1 : k < la.length) (h2 : k < lb.length) => (by
    have e1 := os_get h1
    rw [hos, os_get h2] at e1
    exact Option.some.inj e1 : lb[k].o = la[k].o))
  obtain ⟨n, hn⟩ : ∃ n, la.length = n := ⟨_, rfl⟩
  have HNA := Lib.hid hn
  have HNB := Lib.hid (hlen.symm.trans hn)
  rw [← hlen, hn]
  rw [hn] at hl
  clear ha hb hg hos hn hlen
  go_enter Tryz.func29, Tryz.ntmps29
  go_wp2_with fail
  go_loopw [5] (fun s5 wr => ∃ k : Nat, s5 = .int .i64 k ∧ k ≤ n ∧ Below w.heap.size w wr) (fun s5 _ => n - (RowKit.intOf s5).toNat)
  case atStart => exact ⟨0, rfl, Nat.zero_le _, Below.refl _ _⟩
  case round =>
    obtain ⟨k, rfl, hk, hb⟩ := hrel
    have HBW := Lib.hid hb
    by_cases hlt : k < n
    · have h1 : k < la.length := by rw [HNA.out]; exact hlt
      have h2 : k < lb.length := by rw [HNB.out]; exact hlt
      have he := HEQ.out k h1 h2
      obtain ⟨b1, off1, rfl, hb1, c0, c1, c2, c3, c4, c5, c6, c7, c8, c9, ca0⟩ := (HA.out.below hb).cells k h1
      obtain ⟨b2, off2, rfl, hb2, e0, e1, e2, e3, e4, e5, e6, e7, e8, e9, ea⟩ := (HB.out.below hb).cells k h2
      have HO1 := Lib.hid ((HA.out.below hb).op k h1)
      have HO2 := Lib.hid ((HB.out.below hb).op k h2)
      have HGK := Lib.hid (HG.out _ (List.getElem_mem h1))
      generalize la[k] = r1 at *
      generalize lb[k] = r2 at *
      clear h1 h2 hb
      obtain ⟨o1, ra, rca⟩ := r1
      obtain ⟨o2, rb, rcb⟩ := r2
      simp only at he
      subst he
      simp only at c0 c1 c2 c3 c4 c5 c6 c7 c8 c9 ca0 e0 e1 e2 e3 e4 e5 e6 e7 e8 e9 ea HO1 HO2 HGK
      have HE := Lib.hid (fun d os => EqOp_yes o2 ra rb rca rcb (grow (redrawn wr d) os) (HO1.out.gone.below (below_regrown wr d os)) (HO2.out.gone.below (below_regrown wr d os)) HGK.out)
      unfold OpD.v at HE
      obtain ⟨site, seq, kind, ⟨es, eq, ei⟩, text, gone, of, num, gen⟩ := o2
      simp only at c0 c1 c2 c3 c4 c5 c6 c7 c8 c9 ca0 e0 e1 e2 e3 e4 e5 e6 e7 e8 e9 ea HE
      have d0 := cell_regrown c0
      have d1 := cell_regrown c1
      have d2 := cell_regrown c2
      have d3 := cell_regrown c3
      have d4 := cell_regrown c4
      have d5 := cell_regrown c5
      have d6 := cell_regrown c6
      have d7 := cell_regrown c7
      have d8 := cell_regrown c8
      have d9 := cell_regrown c9
      have da := cell_regrown ca0
      have f0 := cell_regrown e0
      have f1 := cell_regrown e1
      have f2 := cell_regrown e2
      have f3 := cell_regrown e3
      have f4 := cell_regrown e4
      have f5 := cell_regrown e5
      have f6 := cell_regrown e6
      have f7 := cell_regrown e7
      have f8 := cell_regrown e8
      have f9 := cell_regrown e9
      have fa := cell_regrown ea
      clear c0 c1 c2 c3 c4 c5 c6 c7 c8 c9 ca0 e0 e1 e2 e3 e4 e5 e6 e7 e8 e9 ea
      go_wp2_with fail
      refine wp_region_quiet_below (by kernel_rfl) (by kernel_rfl) ?_
      repeat (first | go_big_quiet_step (exact Calls.regrown_of (HE.out _ _)) | quiet_step (exact Calls.regrown_of (HE.out _ _)))
      refine wpQuiet_nil ?_
      intro _ hw'
      obtain ⟨⟨dq, osq⟩, hw''⟩ := hw'
      subst hw''
      have HBV := Lib.hid (HBW.out.trans ((below_regrown wr dq osq).mono HBW.out.size))
      clear d0 d1 d2 d3 d4 d5 d6 d7 d8 d9 da f0 f1 f2 f3 f4 f5 f6 f7 f8 f9 fa
      generalize grow (redrawn wr dq) osq = wv at *
      go_wp2_with fail
      go_roundw
      case rel => exact ⟨k + 1, by go_num, by omega, HBV.out⟩
      case measure => simp [RowKit.intOf] <;> omega
    · have hd : decide (k < n) = false := decide_eq_false hlt
      clear hb
      go_wp2_with fail
      go_ret
      exact ⟨rfl, HBW.out⟩

set_option maxRecDepth 100000 in
set_option maxHeartbeats 4000000 in
theorem Written_any (a : Option Addr) (cap : Nat) (l : List OpR) (e : El) (w : World) (hT : Tabs w) (hsz : Szs l) (h : OpsAt w a l) : Calls Tryz.prog 26 #[.slice a l.length cap, e.v] w (BoB (!e.begin && wrt (OpR.os l) e) w) := by
  have HX := Lib.hid (BoxE.new w e)
  have HB0 : RowKit.Hid (Below w.heap.size w (w.alloc (.cells #[.int .i64 e.s, .int .i64 e.q, .int .i64 e.i] 37))) := Lib.hid ((Below.refl _ _).alloc (Nat.le_refl _) _)
  have HBG := Lib.hid (fun wx => Begin_any e wx)
  have HWR := Lib.hid (fun wx (hx : Below w.heap.size w wx) => rWritten_any a cap l e wx (hT.next hx) hsz (h.below hx))
  obtain ⟨n, hn⟩ : ∃ n, l.length = n := ⟨_, rfl⟩
  rw [hn] at HWR ⊢
  clear h hT hsz hn
  generalize wrt (OpR.os l) e = wn at *
  generalize e.begin = bg at *
  obtain ⟨s, q, i⟩ := e
  unfold El.v at HBG HWR ⊢
  simp only at HX HB0 HBG HWR ⊢
  cases bg
  · go_enter Tryz.func26, Tryz.ntmps26
    go_wp2_with (first
      | (go_at_call 57; refine (HBG.out _).mono ?_; rintro x1 w1 ⟨rfl, hb1⟩; have HB1 := Lib.hid (HB0.out.trans (hb1.mono HB0.out.size)); have hx1 := HX.out.step hb1; have y0 := hx1.c0; have y1 := hx1.c1; have y2 := hx1.c2; have hyl := hx1.lt; simp only at y0 y1 y2; clear hb1 hx1)
      | (go_at_call 58; refine (HWR.out _ HB1.out).mono ?_; rintro x2 w2 ⟨rfl, hb2⟩; have HB2 := Lib.hid (HB1.out.trans (hb2.mono HB1.out.size)); clear hb2)
      | fail)
    go_ret
    exact ⟨rfl, HB2.out⟩
  · go_enter Tryz.func26, Tryz.ntmps26
    go_wp2_with (first
      | (go_at_call 57; refine (HBG.out _).mono ?_; rintro x1 w1 ⟨rfl, hb1⟩; have HB1 := Lib.hid (HB0.out.trans (hb1.mono HB0.out.size)); clear hb1)
      | fail)
    go_ret
    exact ⟨rfl, HB1.out⟩

/-- in a row that may be what is written is what is in the order -/
theorem wrt_ord {l : List OpD} (hr : rowP l) {e : El} (hb : e.begin = false) : wrt l e = decide (e ∈ ordE l) := by
  have hinv := row_inv hr.2 l.length (Nat.le_refl _)
  have hn := row_names hr.2 l.length (Nat.le_refl _)
  rw [List.take_length] at hinv hn
  have hmem : e ∈ ordE l ↔ 0 ≤ e.i ∧ ∃ c : Nat, ed l e.w = some c ∧ e.i < c := by
    rw [← hinv.mem e]
    unfold ordE
    rw [List.mem_map]
    constructor
    · rintro ⟨u, hu, rfl⟩
      obtain ⟨i, hi⟩ := List.mem_iff_getElem?.1 hu
      exact ⟨i, u, hi, rfl⟩
    · rintro ⟨i, u, hi, rfl⟩
      exact ⟨u, List.mem_of_getElem? hi, rfl⟩
  by_cases hi : 0 ≤ e.i
  · rw [wrt_eq hn hb hi]
    unfold wr
    rw [decide_eq_decide, hmem]
    cases hc : ed l e.w with
    | none => simp; omega
    | some c => simp [hi]
  · rw [decide_eq_false (fun h => hi (hmem.1 h).1)]
    unfold wrt
    rw [hb]
    cases hx : l[fk l e.s e.q]? with
    | none => rfl
    | some p => simp [hi]
end Go.Proofs.YthnedehihbploaaGreatDoor
/- A row of ops of the call's own: an op changed in one place, two that change their places, one more, one less. Pure, but for the memory. -/
namespace Go.Proofs.YthnedehihbploaaGreatDoor
open Go.RowKit Go.Lib Go.Sort

theorem ocs_length (l : List OpR) : (ocs l).length = l.length * 11 := by
  induction l with
  | nil => rfl
  | cons e l ih => show (OpR.cs e ++ ocs l).length = _; rw [List.length_append, ih, List.length_cons]; show 11 + _ = _; omega
theorem ocs_set (l : List OpR) (k c : Nat) (u : Value) (r : OpR) (hk : k < l.length) (hc : c < 11) (hr : r.cs = (l[k].cs).set c u) : (ocs l).set (k * 11 + c) u = ocs (l.set k r) := by
  induction l generalizing k with
  | nil => exact absurd hk (by simp)
  | cons x l ih =>
    have h11 : (OpR.cs x).length = 11 := rfl
    cases k with
    | zero =>
      show (OpR.cs x ++ ocs l).set _ _ = OpR.cs r ++ ocs l
      rw [List.set_append_left _ _ (by rw [h11]; omega)]
      simp only [List.getElem_cons_zero] at hr
      rw [hr]
      congr 2
      omega
    | succ k =>
      show (OpR.cs x ++ ocs l).set _ _ = OpR.cs x ++ ocs (l.set k r)
      rw [List.set_append_right _ _ (by rw [h11]; omega), h11, show (k + 1) * 11 + c - 11 = k * 11 + c from by omega, ih k (by simpa using hk) (by simpa using hr)]
theorem mem_set {l : List OpR} {k : Nat} {r x : OpR} (h : x ∈ l.set k r) : x = r ∨ x ∈ l := by
  rcases List.mem_or_eq_of_mem_set h with h | h
  · exact .inr h
  · exact .inl h
/-- a store into one cell of an op, other than what it takes away -/
theorem OwnO.stored {base : Nat} {w : World} {g n cap : Nat} {L : List OpR} (h : OwnO base w (.slice (some ⟨g, 0, none⟩) n cap) L) (hn : L.length = n) {k c : Nat} (hk : k < L.length) (hc : c < 11) {u : Value} {r : OpR} (hr : r.cs = (L[k].cs).set c u) (hra : r.a = L[k].a) (hro : r.o.gone = L[k].o.gone) (hrc : r.cap = L[k].cap) (hrs : r.o.text.size ≤ BIG) :
    OwnO base (w.setCell ⟨g, k * 11 + c, none⟩ u) (.slice (some ⟨g, 0, none⟩) n cap) (L.set k r) := by
  have ho := h.own
  rw [hn] at ho
  have h1 := (ho.stored (k * 11 + c) u)
  rw [ocs_set L k c u r hk hc hr] at h1
  have hkp : Kp (some g) w (w.setCell ⟨g, k * 11 + c, none⟩ u) := ⟨h1.2.os, h1.2.tape, h1.2.output, h1.2.size, fun j hj hne => h1.2.block j hj hne⟩
  have hob : (Value.slice (some ⟨g, 0, none⟩) n cap).ownBlock = some g := rfl
  have hold : ∀ x ∈ L, OpAt (w.setCell ⟨g, k * 11 + c, none⟩ u) x.o x.a x.cap := fun x hx => (h.at_ x hx).kp hkp (fun ad ha => by have := (h.apart x hx ad ha).1; rw [hob] at this; exact this)
  have hmk : L[k] ∈ L := List.getElem_mem hk
  refine ⟨by rw [List.length_set, hn]; exact h1.1, fun x hx => ?_, fun x hx ad ha => ?_, fun x hx ad ha => ?_⟩
  · rcases mem_set hx with rfl | hx
    · have h2 := hold _ hmk
      refine ⟨?_, ?_, hrs, ?_⟩
      · rw [hro, hra]; exact h2.gone
      · rw [hro]; exact h2.len
      · rw [hro, hra, hrc]; exact h2.none
    · exact hold x hx
  · have hsz : (w.setCell ⟨g, k * 11 + c, none⟩ u).heap.size = w.heap.size := by simp
    rw [hsz]
    rcases mem_set hx with rfl | hx
    · rw [hra] at ha
      exact h.apart _ hmk ad ha
    · exact h.apart x hx ad ha
  · rcases mem_set hx with rfl | hx
    · rw [hra] at ha
      exact h.ge _ hmk ad ha
    · exact h.ge x hx ad ha
end Go.Proofs.YthnedehihbploaaGreatDoor
/- A row of ops of the call's own: one less, in place. Pure, but for the memory. -/
namespace Go.Proofs.YthnedehihbploaaGreatDoor
open Go.RowKit Go.Lib Go.Sort

def vput : List Value → Nat → List Value → List Value
  | xs, _, [] => xs
  | xs, o, v :: r => vput (xs.set o v) (o + 1) r
theorem vput_eq (vs : List Value) : ∀ (xs : List Value) (o : Nat), o + vs.length ≤ xs.length → vput xs o vs = xs.take o ++ vs ++ xs.drop (o + vs.length) := by
  induction vs with
  | nil => intro xs o _; simp [vput]
  | cons v r ih =>
    intro xs o h
    simp only [List.length_cons] at h
    show vput (xs.set o v) (o + 1) r = _
    rw [ih _ _ (by rw [List.length_set]; omega), List.drop_set_of_lt (by omega), List.take_succ_eq_append_getElem (by rw [List.length_set]; omega), List.take_set, List.set_eq_of_length_le (by rw [List.length_take]; omega)]
    simp only [List.getElem_set_self, List.append_assoc, List.length_cons, List.cons_append, List.nil_append]
    rw [show o + 1 + r.length = o + (r.length + 1) from by omega]
theorem owns_vput {base : Nat} {e : TypeId} {size g n cap : Nat} (vs : List Value) : ∀ (o : Nat) (w : World) (xs : List Value), w.ownsRow base e size (.slice (some ⟨g, 0, none⟩) n cap) n xs → (w.setCells g o vs).ownsRow base e size (.slice (some ⟨g, 0, none⟩) n cap) n (vput xs o vs) ∧ Kp (some g) w (w.setCells g o vs) := by
  induction vs with
  | nil => intro o w xs h; exact ⟨h, Kp.refl _ _⟩
  | cons v r ih =>
    intro o w xs h
    have h1 := h.stored o v
    have h2 := ih (o + 1) _ _ h1.1
    exact ⟨h2.1, ⟨h2.2.os.trans h1.2.os, h2.2.tape.trans h1.2.tape, h2.2.output.trans h1.2.output, Nat.le_trans h1.2.size h2.2.size, fun j hj hne => (h2.2.block j (Nat.lt_of_lt_of_le hj h1.2.size) hne).trans (h1.2.block j hj hne)⟩⟩
theorem owns_less {base : Nat} {w : World} {e : TypeId} {size g n n' cap : Nat} {xs : List Value} (h : w.ownsRow base e size (.slice (some ⟨g, 0, none⟩) n cap) n xs) (hn : n' ≤ n) : w.ownsRow base e size (.slice (some ⟨g, 0, none⟩) n' cap) n' (xs.take (n' * size)) := by
  have hm : n' * size ≤ n * size := Nat.mul_le_mul_right _ hn
  refine ⟨by rw [List.length_take, h.1]; omega, ?_⟩
  rcases h.2 with ⟨e1, _⟩ | ⟨g', cap', cur, e1, hb, hg, hnc, hcm, hcs, htake⟩
  · simp at e1
  · simp only [Value.slice.injEq, Option.some.injEq, Addr.mk.injEq, and_true, true_and] at e1
    obtain ⟨rfl, rfl⟩ := e1
    exact .inr ⟨g, cap, cur, rfl, hb, hg, Nat.le_trans hn hnc, hcm, hcs, by rw [← htake, List.take_take, Nat.min_eq_left hm]⟩
theorem ocs_take (L : List OpR) (t : Nat) (ht : t ≤ L.length) : (ocs L).take (t * 11) = ocs (L.take t) := by
  have h : ocs L = ocs (L.take t) ++ ocs (L.drop t) := by rw [← ocs_append, List.take_append_drop]
  rw [h, List.take_append_of_le_length (by rw [ocs_length, List.length_take]; omega)]
  exact List.take_of_length_le (by rw [ocs_length, List.length_take]; omega)
/-- without the one at t, in place -/
theorem OwnO.cut {base : Nat} {w : World} {g n cap : Nat} {L : List OpR} (h : OwnO base w (.slice (some ⟨g, 0, none⟩) n cap) L) (hn : L.length = n) {t : Nat} (ht : t < n) :
    OwnO base (w.setCells g (t * 11) (ocs (L.drop (t + 1)))) (.slice (some ⟨g, 0, none⟩) (t + (n - (t + 1))) cap) (L.take t ++ L.drop (t + 1)) ∧ Kp (some g) w (w.setCells g (t * 11) (ocs (L.drop (t + 1)))) := by
  have ho := h.own
  rw [hn] at ho
  have h1 := owns_vput (ocs (L.drop (t + 1))) (t * 11) w (ocs L) ho
  have hdl : (ocs (L.drop (t + 1))).length = (n - (t + 1)) * 11 := by rw [ocs_length, List.length_drop, hn]
  have hL2 : (L.take t ++ L.drop (t + 1)).length = t + (n - (t + 1)) := by rw [List.length_append, List.length_take, List.length_drop, hn]; omega
  rw [vput_eq _ _ _ (by rw [hdl, ocs_length, hn]; omega), ocs_take L t (by omega)] at h1
  have h2 := owns_less (n' := t + (n - (t + 1))) h1.1 (by omega)
  rw [List.take_append_of_le_length (by rw [List.length_append, hdl, ocs_length, List.length_take]; omega), List.take_of_length_le (by rw [List.length_append, hdl, ocs_length, List.length_take]; omega), ← ocs_append] at h2
  have hob : (Value.slice (some ⟨g, 0, none⟩) n cap).ownBlock = some g := rfl
  have hm : ∀ x ∈ L.take t ++ L.drop (t + 1), x ∈ L := fun x hx => by
    rcases List.mem_append.1 hx with hx | hx
    · exact List.mem_of_mem_take hx
    · exact List.mem_of_mem_drop hx
  refine ⟨⟨by rw [hL2]; exact h2, fun x hx => (h.at_ x (hm x hx)).kp h1.2 (fun ad ha => by have := (h.apart x (hm x hx) ad ha).1; rw [hob] at this; exact this), fun x hx ad ha => ?_, fun x hx ad ha => h.ge x (hm x hx) ad ha⟩, h1.2⟩
  have h3 := h.apart x (hm x hx) ad ha
  exact ⟨h3.1, Nat.lt_of_lt_of_le h3.2 h1.2.size⟩
theorem ocs_drop (L : List OpR) (k : Nat) (hk : k < L.length) : (ocs L).drop (k * 11 + 11) = ocs (L.drop (k + 1)) := by
  have h : ocs L = ocs (L.take (k + 1)) ++ ocs (L.drop (k + 1)) := by rw [← ocs_append, List.take_append_drop]
  have h2 : (ocs (L.take (k + 1))).length = k * 11 + 11 := by rw [ocs_length, List.length_take]; omega
  rw [h, List.drop_append_of_le_length (by omega), List.drop_of_length_le (by omega), List.nil_append]
/-- one op in another's place -/
theorem OwnO.put {base : Nat} {w : World} {g n cap : Nat} {L : List OpR} (h : OwnO base w (.slice (some ⟨g, 0, none⟩) n cap) L) (hn : L.length = n) {k : Nat} (hk : k < n) {r : OpR} (hr : OpAt w r.o r.a r.cap) (hra : ∀ ad, r.a = some ad → some ad.block ≠ some g ∧ ad.block < w.heap.size ∧ base ≤ ad.block) :
    OwnO base (w.setCells g (k * 11) r.cs) (.slice (some ⟨g, 0, none⟩) n cap) (L.set k r) ∧ Kp (some g) w (w.setCells g (k * 11) r.cs) := by
  have ho := h.own
  rw [hn] at ho
  have h1 := owns_vput r.cs (k * 11) w (ocs L) ho
  have h11 : (OpR.cs r).length = 11 := rfl
  rw [vput_eq _ _ _ (by rw [h11, ocs_length, hn]; omega), ocs_take L k (by omega), h11, ocs_drop L k (by omega)] at h1
  have he : ocs (L.take k) ++ r.cs ++ ocs (L.drop (k + 1)) = ocs (L.set k r) := by
    rw [List.set_eq_take_append_cons_drop, if_pos (by omega), ocs_append, List.append_assoc]
    rfl
  rw [he] at h1
  have hob : (Value.slice (some ⟨g, 0, none⟩) n cap).ownBlock = some g := rfl
  refine ⟨⟨by rw [List.length_set, hn]; exact h1.1, fun x hx => ?_, fun x hx ad ha => ?_, fun x hx ad ha => ?_⟩, h1.2⟩
  · rcases mem_set hx with rfl | hx
    · exact hr.kp h1.2 (fun ad ha => (hra ad ha).1)
    · exact (h.at_ x hx).kp h1.2 (fun ad ha => by have := (h.apart x hx ad ha).1; rw [hob] at this; exact this)
  · rcases mem_set hx with rfl | hx
    · exact ⟨(hra ad ha).1, Nat.lt_of_lt_of_le (hra ad ha).2.1 h1.2.size⟩
    · have h3 := h.apart x hx ad ha
      exact ⟨h3.1, Nat.lt_of_lt_of_le h3.2 h1.2.size⟩
  · rcases mem_set hx with rfl | hx
    · exact (hra ad ha).2.2
    · exact h.ge x hx ad ha
/-- two that change their places -/
theorem OwnO.swap {base : Nat} {w : World} {g n cap : Nat} {L : List OpR} (h : OwnO base w (.slice (some ⟨g, 0, none⟩) n cap) L) (hn : L.length = n) {i j : Nat} (hi : i < L.length) (hj : j < L.length) :
    OwnO base ((w.setCells g (i * 11) (L[j].cs)).setCells g (j * 11) (L[i].cs)) (.slice (some ⟨g, 0, none⟩) n cap) ((L.set i L[j]).set j L[i]) ∧ Kp (some g) w ((w.setCells g (i * 11) (L[j].cs)).setCells g (j * 11) (L[i].cs)) := by
  have hm : ∀ x ∈ L, ∀ ad, x.a = some ad → some ad.block ≠ some g ∧ ad.block < w.heap.size ∧ base ≤ ad.block := fun x hx ad ha => ⟨(h.apart x hx ad ha).1, (h.apart x hx ad ha).2, h.ge x hx ad ha⟩
  have h1 := h.put hn (k := i) (by omega) (h.at_ _ (List.getElem_mem hj)) (hm _ (List.getElem_mem hj))
  have h2 := h1.1.put (by rw [List.length_set, hn]) (k := j) (r := L[i]) (by omega) ((h.at_ _ (List.getElem_mem hi)).kp h1.2 (fun ad ha => (hm _ (List.getElem_mem hi) ad ha).1)) (fun ad ha => by have h3 := hm _ (List.getElem_mem hi) ad ha; exact ⟨h3.1, Nat.lt_of_lt_of_le h3.2.1 h1.2.size, h3.2.2⟩)
  exact ⟨h2.1, ⟨h2.2.os.trans h1.2.os, h2.2.tape.trans h1.2.tape, h2.2.output.trans h1.2.output, Nat.le_trans h1.2.size h2.2.size, fun k hk hne => (h2.2.block k (Nat.lt_of_lt_of_le hk h1.2.size) hne).trans (h1.2.block k hk hne)⟩⟩
theorem below_kp2 {B g : Nat} {a w w' : World} (h : Below B a w) (hk : Kp (some g) w w') (hg : B ≤ g) (hB : B ≤ w.heap.size) : Below B a w' :=
  ⟨hk.os.trans h.os, hk.tape.trans h.tape, hk.output.trans h.output, Nat.le_trans h.size hk.size, fun k hk2 => (hk.block k (Nat.lt_of_lt_of_le hk2 hB) (fun e => by simp only [Option.some.injEq] at e; omega)).trans (h.block k hk2)⟩
theorem cut_cells {base : Nat} {w : World} {g n cap : Nat} {L : List OpR} (h : OwnO base w (.slice (some ⟨g, 0, none⟩) n cap) L) (hn : L.length = n) (t : Nat) : ∀ j u, (ocs (L.drop (t + 1)))[j]? = some u → w.cell? ⟨g, (t + 1) * 11 + j, none⟩ = some u := by
  intro j u hu
  have ho := h.own
  rw [hn] at ho
  have hjl : j < (ocs (L.drop (t + 1))).length := (List.getElem?_eq_some_iff.1 hu).1
  rw [ocs_length, List.length_drop, hn] at hjl
  rw [ho.cellAt _ (by omega), ← hu]
  have h3 : ocs L = ocs (L.take (t + 1)) ++ ocs (L.drop (t + 1)) := by rw [← ocs_append, List.take_append_drop]
  have h4 : (ocs (L.take (t + 1))).length = (t + 1) * 11 := by rw [ocs_length, List.length_take, hn]; omega
  rw [h3, List.getElem?_append_right (by omega), h4, Nat.add_sub_cancel_left]
theorem ocs_one' (L : List OpR) : ∀ u ∈ ocs L, u.oneCell' = true := by
  intro u hu
  obtain ⟨r, _, hr⟩ := List.mem_flatMap.1 hu
  exact cs_oneR r u hr
end Go.Proofs.YthnedehihbploaaGreatDoor
