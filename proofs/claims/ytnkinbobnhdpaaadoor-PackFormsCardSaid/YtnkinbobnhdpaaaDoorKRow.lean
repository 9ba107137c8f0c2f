/- rows of ops of the call's own; CopyOps, EqOps (out of the tree's texts; where those are imported, this one is not) -/
import Derived.Test.YtnkinbobnhdpaaaDoorOCopy
import Derived.Test.YtnkinbobnhdpaaaDoorOArgs2
import Derived.Maps.AppendAt
import Derived.Sort.Grow
import Derived.Lib.QuietBelow
import Derived.Deep.QuietTactic
import Derived.BigQuiet
import Derived.Laws.IdiomCopy
namespace Go.Proofs.YtnkinbobnhdpaaaDoor
open Go.RowKit Go.Lib Go.Sort

theorem Tryd.infoOp : (Tryd.prog.info? 36).map (fun i => (i.zero, i.size, i.bytes)) = some (some (.agg #[.int .i64 0, .int .i64 0, .int .i64 0, .int .i64 0, .int .i64 0, .int .i64 0, .string ⟨#[]⟩, .slice none 0 0, .int .i64 0, .int .i64 0, .int .i64 0]), 11, 112) := by kernel_rfl
/-- ops as cells -/
def ocs (L : List OpR) : List Value := L.flatMap OpR.cs
theorem ocs_append (a b : List OpR) : ocs (a ++ b) = ocs a ++ ocs b := by simp [ocs]
theorem ocs_one (r : OpR) : ocs [r] = r.cs := by simp [ocs]
theorem ocs_get (l : List OpR) (j c : Nat) (h : j < l.length) (hc : c < 11) : (ocs l)[j * 11 + c]? = (l[j].cs)[c]? := by
  induction l generalizing j with
  | nil => exact absurd h (by simp)
  | cons e l ih =>
    show (OpR.cs e ++ ocs l)[j * 11 + c]? = _
    cases j with
    | zero =>
      rw [List.getElem?_append_left (by show 0 * 11 + c < 11; omega)]
      simp
    | succ j =>
      rw [List.getElem?_append_right (by show 11 ≤ _; omega)]
      have : (j + 1) * 11 + c - (OpR.cs e).length = j * 11 + c := by show (j + 1) * 11 + c - 11 = _; omega
      rw [this, ih j (by simpa using h)]
      simp
theorem ops_own {w : World} {base : Nat} {v : Value} {L : List OpR} (h : w.ownsRow base 36 11 v L.length (ocs L)) (hop : ∀ r ∈ L, OpAt w r.o r.a r.cap) (hl : L.length ≤ BIG) :
    ∃ a c, v = .slice a L.length c ∧ OpsAt w a L ∧ L.length ≤ c := by
  rcases h.2 with ⟨hv, h0⟩ | ⟨g, cap, cur, hv, hg, hh, hc, hm, hcs, ht⟩
  · exact ⟨none, 0, by rw [hv, h0], ⟨fun j hj => by omega, fun j hj => by omega, hl⟩, by omega⟩
  · refine ⟨_, cap, hv, ⟨fun j hj => ⟨g, 0, rfl, (Array.getElem?_eq_some_iff.1 hh).1, fun c u hu => ?_⟩, fun j hj => hop _ (List.getElem_mem hj), hl⟩, hc⟩
    have hc11 : c < 11 := (List.getElem?_eq_some_iff.1 hu).1
    subst hv
    rw [Nat.zero_add, h.cellAt (j * 11 + c) (by omega), ocs_get L j c hj hc11]
    exact hu
/-- an op that takes nothing away -/
def mkR (o : OpD) : OpR := ⟨o, none, 0⟩
theorem mk_at {o : OpD} (hg : o.gone = []) (hs : o.text.size ≤ BIG) (w : World) : OpAt w (mkR o).o (mkR o).a (mkR o).cap := by
  refine ⟨?_, ?_, hs, fun _ => ⟨?_, rfl⟩⟩
  · show ElemsAt w none o.gone
    rw [hg]; exact ElemsAt.nil none
  · show o.gone.length ≤ BIG
    rw [hg]; exact Nat.zero_le _
  · show o.gone.length = 0
    rw [hg]; rfl
/-- r' is r, or a block that is new over w -/
def NewRow (w : World) (r r' : Option Nat) : Prop := r' = r ∨ ∃ g, r' = some g ∧ w.heap.size ≤ g
/-- nothing has turned but row r's block -/
structure Kp (r : Option Nat) (w w' : World) : Prop where
  os : w'.os = w.os
  tape : w'.tape = w.tape
  output : w'.output = w.output
  size : w.heap.size ≤ w'.heap.size
  block : ∀ k, k < w.heap.size → some k ≠ r → w'.heap[k]? = w.heap[k]?
theorem Kp.refl (r : Option Nat) (w : World) : Kp r w w := ⟨rfl, rfl, rfl, Nat.le_refl _, fun _ _ _ => rfl⟩
theorem Kp.step {r : Option Nat} {w wr w8 : World} {b : Option Nat} {o : Obj} (h : Kp r w wr) (hn : NewRow w r b) (hg : (wr.alloc o).grownBy w8 b) : Kp r w w8 := by
  have hs : (wr.alloc o).heap.size = wr.heap.size + 1 := by simp
  have hsz := hg.size
  have h1 := h.size
  refine ⟨hg.os.trans h.os, hg.tape.trans h.tape, hg.output.trans h.output, by omega, fun k hk hr => ?_⟩
  have hkb : some k ≠ b := by
    rcases hn with e | ⟨g, e, hge⟩
    · rw [e]; exact hr
    · rw [e]; intro e2; cases e2; omega
  rw [hg.block k (by omega) hkb, heap_alloc_old _ _ (by omega)]
  exact h.block k hk hr
theorem Kp.owns {r : Option Nat} {w w' : World} (h : Kp r w w') {base : Nat} {t : TypeId} {size : Nat} {v : Value} {n : Nat} {xs : List Value} (ho : w.ownsRow base t size v n xs) (hne : v.ownBlock = none ∨ v.ownBlock ≠ r) : w'.ownsRow base t size v n xs := by
  refine ⟨ho.1, ?_⟩
  rcases ho.2 with h2 | ⟨g, cap, cur, hv, hg, hh, rest⟩
  · exact .inl h2
  · refine .inr ⟨g, cap, cur, hv, hg, ?_, rest⟩
    have hob : v.ownBlock = some g := by rw [hv]; rfl
    rw [h.block g (Array.getElem?_eq_some_iff.1 hh).1 (by
      rcases hne with e | e
      · rw [hob] at e; cases e
      · rw [hob] at e; exact e)]
    exact hh
def OpR.os (l : List OpR) : List OpD := l.map (·.o)
theorem os_len (l : List OpR) : (OpR.os l).length = l.length := by simp [OpR.os]
theorem os_get {l : List OpR} {k : Nat} (h : k < l.length) : (OpR.os l)[k]? = some l[k].o := by simp [OpR.os, h]
theorem cell_op_newR (w : World) (r : OpR) (t : TypeId) : ∀ j u, (r.cs)[j]? = some u → (w.alloc (.cells #[.int .i64 r.o.site, .int .i64 r.o.seq, .int .i64 r.o.kind, .int .i64 r.o.after.s, .int .i64 r.o.after.q, .int .i64 r.o.after.i, .string r.o.text, .slice r.a r.o.gone.length r.cap, .int .i64 r.o.of, .int .i64 r.o.num, .int .i64 r.o.gen] t)).cell? ((⟨w.heap.size, 0, none⟩ : Addr).add j) = some u := by
  intro j u hu
  rw [Addr.add_lit, Nat.zero_add, World.cell?_alloc_new, ← hu]
  unfold OpR.cs OpD.cs
  simp
theorem cs_oneR (r : OpR) : ∀ u ∈ r.cs, u.oneCell' = true := by
  intro u hu
  unfold OpR.cs OpD.cs at hu
  simp only [List.mem_cons, List.not_mem_nil, or_false] at hu
  rcases hu with rfl | rfl | rfl | rfl | rfl | rfl | rfl | rfl | rfl | rfl | rfl <;> rfl
theorem ElemsAt.kp {w w' : World} {r : Option Nat} {a : Option Addr} {l : List El} (h : ElemsAt w a l) (hk : Kp r w w') (hne : ∀ ad, a = some ad → some ad.block ≠ r) : ElemsAt w' a l :=
  ⟨fun j hj => by
    obtain ⟨b, off, h1, h2, h3, h4, h5⟩ := h.cell j hj
    have hb := hk.block b h2 (hne _ h1)
    have hc : ∀ o, w'.cell? ⟨b, o, none⟩ = w.cell? ⟨b, o, none⟩ := fun o => by unfold World.cell?; simp only [hb]
    exact ⟨b, off, h1, Nat.lt_of_lt_of_le h2 hk.size, (hc _).trans h3, (hc _).trans h4, (hc _).trans h5⟩⟩
theorem OpAt.kp {w w' : World} {r : Option Nat} {o : OpD} {a : Option Addr} {cap : Nat} (h : OpAt w o a cap) (hk : Kp r w w') (hne : ∀ ad, a = some ad → some ad.block ≠ r) : OpAt w' o a cap :=
  ⟨h.gone.kp hk hne, h.len, h.size, h.none⟩
/-- ops of the call's own, and what each holds, elsewhere -/
structure OwnO (base : Nat) (w : World) (v : Value) (L : List OpR) : Prop where
  own : w.ownsRow base 36 11 v L.length (ocs L)
  at_ : ∀ r ∈ L, OpAt w r.o r.a r.cap
  apart : ∀ r ∈ L, ∀ ad, r.a = some ad → some ad.block ≠ v.ownBlock ∧ ad.block < w.heap.size
  ge : ∀ r ∈ L, ∀ ad, r.a = some ad → base ≤ ad.block
theorem OwnO.below {base : Nat} {w w' : World} {v : Value} {L : List OpR} (h : OwnO base w v L) (hb : Below w.heap.size w w') : OwnO base w' v L := ⟨owns_belE h.own hb, fun r hr => (h.at_ r hr).below hb, fun r hr ad ha => ⟨(h.apart r hr ad ha).1, Nat.lt_of_lt_of_le (h.apart r hr ad ha).2 hb.size⟩, h.ge⟩
theorem OwnO.ops {base : Nat} {w : World} {v : Value} {L : List OpR} (h : OwnO base w v L) (hl : L.length ≤ BIG) : ∃ a c, v = .slice a L.length c ∧ OpsAt w a L ∧ L.length ≤ c := ops_own h.own h.at_ hl
theorem OwnO.nil (base : Nat) (w : World) : OwnO base w (.slice none 0 0) [] := ⟨World.ownsRow_nil _ _ _ _, fun r hr => absurd hr (by simp), fun r hr => absurd hr (by simp), fun r hr => absurd hr (by simp)⟩
theorem OwnO.push {base : Nat} {w w8 : World} {v v8 : Value} {L : List OpR} {r : OpR} {o : Obj} (h : OwnO base w v L) (hr : OpAt w r.o r.a r.cap) (hra : ∀ ad, r.a = some ad → some ad.block ≠ v.ownBlock ∧ ad.block < w.heap.size ∧ base ≤ ad.block)
    (ho : w8.ownsRow base 36 11 v8 (L.length + 1) (ocs L ++ r.cs)) (hg : (w.alloc o).grownBy w8 v.ownBlock) (hat : v8.ownBlock = v.ownBlock ∨ v8.ownBlock = some (w.alloc o).heap.size) : OwnO base w8 v8 (L ++ [r]) := by
  have hkp : Kp v.ownBlock w w8 := (Kp.refl v.ownBlock w).step (.inl rfl) hg
  have hap : ∀ ad : Addr, some ad.block ≠ v.ownBlock ∧ ad.block < w.heap.size → some ad.block ≠ v8.ownBlock ∧ ad.block < w8.heap.size := by
    intro ad ⟨h1, h2⟩
    refine ⟨?_, Nat.lt_of_lt_of_le h2 hkp.size⟩
    rcases hat with e | e
    · rw [e]; exact h1
    · rw [e]
      intro e2
      simp at e2
      omega
  refine ⟨?_, fun x hx => ?_, fun x hx ad ha => ?_, fun x hx ad ha => ?_⟩
  · rw [List.length_append, ocs_append, ocs_one]
    exact ho
  · rcases List.mem_append.1 hx with hx | hx
    · exact (h.at_ x hx).kp hkp (fun ad ha => (h.apart x hx ad ha).1)
    · have : x = r := by simpa using hx
      subst this
      exact hr.kp hkp (fun ad ha => (hra ad ha).1)
  · rcases List.mem_append.1 hx with hx | hx
    · exact hap ad (h.apart x hx ad ha)
    · have : x = r := by simpa using hx
      subst this
      exact hap ad ⟨(hra ad ha).1, (hra ad ha).2.1⟩
  · rcases List.mem_append.1 hx with hx | hx
    · exact h.ge x hx ad ha
    · have : x = r := by simpa using hx
      subst this
      exact (hra ad ha).2.2
def CopysPost (l : List OpR) (w : World) (x : Ending) (w' : World) : Prop := ∃ v L, x = .returned v ∧ OwnO w.heap.size w' v L ∧ OpR.os L = OpR.os l ∧ Below w.heap.size w w'
set_option maxRecDepth 100000 in
set_option maxHeartbeats 4000000 in
theorem CopyOps_any (a : Option Addr) (cap : Nat) (l : List OpR) (w : World) (h : OpsAt w a l) (hg : ∀ r ∈ l, r.o.gone.length ≤ 1000000) (hl : l.length ≤ 1000000) : Calls Tryd.prog 63 #[.slice a l.length cap] w (CopysPost l w) := by
  obtain ⟨i0, hq0, hz0, hz1, hz2⟩ := info_parts Tryd.infoOp
  have HH := Lib.hid h
  have HG := Lib.hid hg
  obtain ⟨n, hn⟩ : ∃ n, l.length = n := ⟨_, rfl⟩
  have HN := Lib.hid hn
  rw [hn] at hl ⊢
  clear h hg hn
  go_enter Tryd.func63, Tryd.ntmps63
  go_wp2_with fail
  go_loopw [3, 4] (fun s3 s4 wr => ∃ (k : Nat) (L : List OpR), s4 = .int .i64 k ∧ k ≤ n ∧ L.length = k ∧ OwnO w.heap.size wr s3 L ∧ OpR.os L = (OpR.os l).take k ∧ Below w.heap.size w wr) (fun _ s4 _ => n - (RowKit.intOf s4).toNat)
  case atStart => exact ⟨0, [], rfl, Nat.zero_le _, rfl, OwnO.nil _ _, by simp [OpR.os], Below.refl _ _⟩
  case round =>
    obtain ⟨k, L, rfl, hk, hL, ho, hos, hb⟩ := hrel
    have HO := Lib.hid ho
    have HOS := Lib.hid hos
    have HB := Lib.hid hb
    have HL := Lib.hid hL
    by_cases hlt : k < n
    · have hkl : k < l.length := by rw [HN.out]; exact hlt
      obtain ⟨b, off, rfl, hbb, c0, c1, c2, c3, c4, c5, c6, c7, c8, c9, ca⟩ := (HH.out.below hb).cells k hkl
      have hoa := (HH.out.below hb).op k hkl
      have HCP := Lib.hid (CopyOp_any l[k].o l[k].a l[k].cap wr hoa.gone (HG.out _ (List.getElem_mem hkl)))
      have HSZ := Lib.hid hoa.size
      have HGL := Lib.hid hoa.len
      have HTK := Lib.hid (show (OpR.os l).take (k + 1) = (OpR.os l).take k ++ [l[k].o] from by rw [List.take_succ_eq_append_getElem (by rw [os_len]; exact hkl)]; simp [OpR.os])
      have HM1 := Lib.hid (show k + 1 ≤ maxLen from by simp only [maxLen]; omega)
      have HM2 := Lib.hid (show (k + 1) * 112 ≤ 140737488355328 from by omega)
      clear ho hos hb hL hoa
      generalize l[k] = r at *
      clear hkl
      obtain ⟨⟨site, seq, kind, ⟨es, eq, ei⟩, text, gone, of, num, gen⟩, ra, rc⟩ := r
      unfold CopyPost OpD.v at HCP
      simp only at c0 c1 c2 c3 c4 c5 c6 c7 c8 c9 ca HCP HSZ HGL HTK
      obtain ⟨g, hgg⟩ : ∃ g, gone.length = g := ⟨_, rfl⟩
      have HGG := Lib.hid hgg
      rw [hgg] at HCP c7
      clear hgg
      go_wp2_with (first
        | (go_at_call 15; refine HCP.out.mono ?_; rintro x5 w5 ⟨a5, cp5, rfl, hown5, hb5⟩; obtain ⟨a6, c6', hv6, hel6, _, _, hnone6⟩ := elems_own (by rw [HGG.out]; exact hown5); rw [HGG.out] at hv6; simp only [Value.slice.injEq] at hv6; obtain ⟨rfl, -, rfl⟩ := hv6; have HE6 := Lib.hid hel6; have HNO6 := Lib.hid hnone6; have HAP5 := Lib.hid (show ∀ ad, a5 = some ad → some ad.block ≠ u3.ownBlock ∧ ad.block < w5.heap.size ∧ w.heap.size ≤ ad.block from fun ad ha => by subst ha; have h9 := hown5.lt ad.block rfl; refine ⟨fun e2 => ?_, h9.2, by have := HB.out.size; omega⟩; have := (HO.out.own.lt _ e2.symm).2; omega); have HB5 := Lib.hid (HB.out.trans (hb5.mono HB.out.size)); have HO5 := Lib.hid (HO.out.below hb5); have HOW5 := Lib.hid (show w5.ownsRow w.heap.size 36 11 _ k (ocs L) from by have h9 := HO5.out.own; rw [HL.out] at h9; exact h9); clear hown5 hb5 hel6 hnone6)
        | (at_builtin; refine wpList_append_own_at _ rfl _ _ 22 rfl w.heap.size 36 i0 (.agg #[.int .i64 0, .int .i64 0, .int .i64 0, .int .i64 0, .int .i64 0, .int .i64 0, .string ⟨#[]⟩, .slice none 0 0, .int .i64 0, .int .i64 0, .int .i64 0]) 11 112 Tryd.underlying22 hq0 hz0 hz1 hz2 rfl (by decide) _ k _ rfl (HOW5.out.alloc _) ⟨w5.heap.size, 0, none⟩ 1 1 (OpR.cs ⟨⟨site, seq, kind, ⟨es, eq, ei⟩, text, gone, of, num, gen⟩, a5, cp5⟩) rfl rfl (by have h9 := cell_op_newR w5 ⟨⟨site, seq, kind, ⟨es, eq, ei⟩, text, gone, of, num, gen⟩, a5, cp5⟩ 36; simp only [HGG.out] at h9; exact h9) (cs_oneR _) HM1.out HM2.out (by have := HB5.out.size; simp; omega) ?_; intro v8 w8 hown8 hgrow8 hnil8 hat8; have HB8 := Lib.hid ((HB5.out.alloc HB5.out.size _).grown hgrow8 (by have := HB5.out.size; simp; omega) (fun q hq => own_ge HOW5.out q hq)); have HO8 := Lib.hid (HO5.out.push (r := ⟨⟨site, seq, kind, ⟨es, eq, ei⟩, text, gone, of, num, gen⟩, a5, cp5⟩) ⟨HE6.out, HGL.out, HSZ.out, HNO6.out⟩ HAP5.out (by rw [HL.out]; exact hown8) hgrow8 hat8); clear hown8 hgrow8 hnil8 hat8)
        | fail)
      go_roundw
      case rel => exact ⟨k + 1, _, by go_num, by omega, by rw [List.length_append, HL.out]; rfl, HO8.out, by rw [HTK.out, ← HOS.out]; simp [OpR.os], HB8.out⟩
      case measure => simp [RowKit.intOf] <;> omega
    · have HF := Lib.hid (show (OpR.os l).take k = OpR.os l from List.take_of_length_le (by rw [os_len, HN.out]; omega))
      clear ho hos hb hL
      go_wp2_with fail
      go_ret
      exact ⟨_, L, rfl, HO.out, HOS.out.trans HF.out, HB.out⟩

set_option maxRecDepth 100000 in
set_option maxHeartbeats 4000000 in
theorem EqOps_yes (a b : Option Addr) (ca cb : Nat) (la lb : List OpR) (w : World) (ha : OpsAt w a la) (hb : OpsAt w b lb) (hos : OpR.os la = OpR.os lb) (hg : ∀ r ∈ la, r.o.gone.length ≤ 1000000) (hl : la.length ≤ 1000000) : Calls Tryd.prog 67 #[.slice a la.length ca, .slice b lb.length cb] w (BoB true w) := by
  have hlen : la.length = lb.length := by rw [← os_len la, ← os_len lb, hos]
  have HA := Lib.hid ha
  have HB := Lib.hid hb
  have HG := Lib.hid hg
  have HEQ := Lib.hid (fun k (h1 : k < la.length) (h2 : k < lb.length) => (by
    have e1 := os_get h1
    rw [hos, os_get h2] at e1
    exact Option.some.inj e1 : lb[k].o = la[k].o))
  obtain ⟨n, hn⟩ : ∃ n, la.length = n := ⟨_, rfl⟩
  have HNA := Lib.hid hn
  have HNB := Lib.hid (hlen.symm.trans hn)
  rw [← hlen, hn]
  rw [hn] at hl
  clear ha hb hg hos hn hlen
  go_enter Tryd.func67, Tryd.ntmps67
  go_wp2_with fail
  go_loopw [5] (fun s5 wr => ∃ k : Nat, s5 = .int .i64 k ∧ k ≤ n ∧ Below w.heap.size w wr) (fun s5 _ => n - (RowKit.intOf s5).toNat)
  case atStart => exact ⟨0, rfl, Nat.zero_le _, Below.refl _ _⟩
  case round =>
    obtain ⟨k, rfl, hk, hb⟩ := hrel
    have HBW := Lib.hid hb
    by_cases hlt : k < n
    · have h1 : k < la.length := by rw [HNA.out]; exact hlt
      have h2 : k < lb.length := by rw [HNB.out]; exact hlt
      have he := HEQ.out k h1 h2
      obtain ⟨b1, off1, rfl, hb1, c0, c1, c2, c3, c4, c5, c6, c7, c8, c9, ca0⟩ := (HA.out.below hb).cells k h1
      obtain ⟨b2, off2, rfl, hb2, e0, e1, e2, e3, e4, e5, e6, e7, e8, e9, ea⟩ := (HB.out.below hb).cells k h2
      have HO1 := Lib.hid ((HA.out.below hb).op k h1)
      have HO2 := Lib.hid ((HB.out.below hb).op k h2)
      have HGK := Lib.hid (HG.out _ (List.getElem_mem h1))
      generalize la[k] = r1 at *
      generalize lb[k] = r2 at *
      clear h1 h2 hb
      obtain ⟨o1, ra, rca⟩ := r1
      obtain ⟨o2, rb, rcb⟩ := r2
      simp only at he
      subst he
      simp only at c0 c1 c2 c3 c4 c5 c6 c7 c8 c9 ca0 e0 e1 e2 e3 e4 e5 e6 e7 e8 e9 ea HO1 HO2 HGK
      have HE := Lib.hid (fun d os => EqOp_yes o2 ra rb rca rcb (grow (redrawn wr d) os) (HO1.out.gone.below (below_regrown wr d os)) (HO2.out.gone.below (below_regrown wr d os)) HGK.out)
      unfold OpD.v at HE
      obtain ⟨site, seq, kind, ⟨es, eq, ei⟩, text, gone, of, num, gen⟩ := o2
      simp only at c0 c1 c2 c3 c4 c5 c6 c7 c8 c9 ca0 e0 e1 e2 e3 e4 e5 e6 e7 e8 e9 ea HE
      have d0 := cell_regrown c0
      have d1 := cell_regrown c1
      have d2 := cell_regrown c2
      have d3 := cell_regrown c3
      have d4 := cell_regrown c4
      have d5 := cell_regrown c5
      have d6 := cell_regrown c6
      have d7 := cell_regrown c7
      have d8 := cell_regrown c8
      have d9 := cell_regrown c9
      have da := cell_regrown ca0
      have f0 := cell_regrown e0
      have f1 := cell_regrown e1
      have f2 := cell_regrown e2
      have f3 := cell_regrown e3
      have f4 := cell_regrown e4
      have f5 := cell_regrown e5
      have f6 := cell_regrown e6
      have f7 := cell_regrown e7
      have f8 := cell_regrown e8
      have f9 := cell_regrown e9
      have fa := cell_regrown ea
      clear c0 c1 c2 c3 c4 c5 c6 c7 c8 c9 ca0 e0 e1 e2 e3 e4 e5 e6 e7 e8 e9 ea
      go_wp2_with fail
      refine wp_region_quiet_below (by kernel_rfl) (by kernel_rfl) ?_
      repeat (first | go_big_quiet_step (exact Calls.regrown_of (HE.out _ _)) | quiet_step (exact Calls.regrown_of (HE.out _ _)))
      refine wpQuiet_nil ?_
      intro _ hw'
      obtain ⟨⟨dq, osq⟩, hw''⟩ := hw'
      subst hw''
      have HBV := Lib.hid (HBW.out.trans ((below_regrown wr dq osq).mono HBW.out.size))
      clear d0 d1 d2 d3 d4 d5 d6 d7 d8 d9 da f0 f1 f2 f3 f4 f5 f6 f7 f8 f9 fa
      generalize grow (redrawn wr dq) osq = wv at *
      go_wp2_with fail
      go_roundw
      case rel => exact ⟨k + 1, by go_num, by omega, HBV.out⟩
      case measure => simp [RowKit.intOf] <;> omega
    · have hd : decide (k < n) = false := decide_eq_false hlt
      clear hb
      go_wp2_with fail
      go_ret
      exact ⟨rfl, HBW.out⟩

end Go.Proofs.YtnkinbobnhdpaaaDoor
