/- slices.Grow at ops, onto nil. -/
import Derived.Shelf.SlGeneric
import Derived.Shelf.Spec.SlicesGrow
import Derived.Test.YtbhfokpakljfoaaROps
import Derived.Test.YtbhfokpakljfoaaOArgs2
import Derived.Test.YtbhfokpakljfoaaVArgs
import Derived.Test.YtbhfokpakljfoaaYCut
import Derived.Laws.AppendOwnNone
import Derived.Test.YtbhfokpakljfoaaDText
import Derived.Test.YtbhfokpakljfoaaZWith
namespace Go.Proofs
open Go.Shelf
def Try.growOp_ren : Go.Shelf.Ren := ⟨fun | 4 => 34 | n => n, fun | 22 => 24 | 25 => 38 | 3 => 3 | 4 => 4 | 9 => 9 | 20 => 20 | 0 => 0 | n => n, fun | n => n⟩
theorem Try.growOp : Go.Proofs.Lays8.n4 Try.prog Try.growOp_ren := {
  mixed := by kernel_rfl
  f4 := ⟨Try.f34.name, by decide, Try.func34.trans (congrArg some (by kernel_rfl))⟩
  t0 := Try.underlying0
  a0 := Try.isAgg0
  z0 := Try.sizeOf0
  v0 := Try.zeroValue0
  t3 := Try.underlying3
  a3 := Try.isAgg3
  z3 := Try.sizeOf3
  v3 := Try.zeroValue3
  t4 := Try.underlying4
  a4 := Try.isAgg4
  z4 := Try.sizeOf4
  v4 := Try.zeroValue4
  t9 := Try.underlying9
  a9 := Try.isAgg9
  z9 := Try.sizeOf9
  v9 := Try.zeroValue9
  t20 := Try.underlying20
  a20 := Try.isAgg20
  z20 := Try.sizeOf20
  v20 := Try.zeroValue20
  t22 := Try.underlying24
  a22 := Try.isAgg24
  z22 := Try.sizeOf24
  v22 := Try.zeroValue24 }
end Go.Proofs
namespace Go.Proofs.Ytbhfokpakljfoaa
open Go.ChangeShapes Go.WideShapes Go.ChangeAt Go.RowKit Go.Lib

def GrowPost (n : Nat) (w : World) (e : Ending) (w' : World) : Prop := ∃ cap, n ≤ cap ∧ e = .returned (.slice (some ⟨w.heap.size, 0, none⟩) 0 cap) ∧ w'.ownsRow w.heap.size 38 11 (.slice (some ⟨w.heap.size, 0, none⟩) 0 cap) 0 [] ∧ Below w.heap.size w w'
theorem owns_none (w w1 : World) (cs : Array Value) (e : TypeId) (size cap : Nat) (hs : w1.heap.size = w.heap.size) (h : cs.size = cap * size) (hm : cap ≤ maxLen) : (w1.alloc (.cells cs e)).ownsRow w.heap.size e size (.slice (some ⟨w.heap.size, 0, none⟩) 0 cap) 0 [] := by
  refine ⟨by simp, .inr ⟨w.heap.size, cap, cs, rfl, Nat.le_refl _, ?_, Nat.zero_le _, hm, h, by simp⟩⟩
  unfold World.alloc
  simp [← hs]
theorem growOp_nil (n : Nat) (w : World) (h0 : 0 < n) (hn : n ≤ 2000000) : Calls Try.prog 34 #[.slice none 0 0, .int .i64 n] w (GrowPost n w) := by
  obtain ⟨i0, hq0, hz0, hz1, hz2⟩ := info_parts Try.infoOp
  have h := Any8.slices_Grow_grow Try.growOp i0 _ hq0 hz0 (by rw [hz1]; decide) none 0 0 n [] w (Nat.le_refl _) (by omega) (by rw [hz2]; omega) (by omega) (by simp) (fun _ => rfl) (fun a ha => by cases ha)
  refine Calls.mono h ?_
  rintro e w' ⟨he, rfl⟩
  have hcap := grownCap_ge w (0 + n) 0 (Try.growOp_ren.t 25)
  have hmax := grownCap_le_maxLen w (0 + n) 0 (Try.growOp_ren.t 25) (by simp only [maxLen]; omega)
  have hsz : ∀ (z : Array Value) (k : Nat), z.size = 11 → (Builtin.zeroCells z k).size = k * 11 := fun z k hz => by rw [size_zeroCells, hz]
  refine ⟨_, by omega, he, owns_none w w.drew _ _ 11 _ rfl ?_ hmax, ((Below.refl _ _).drew).alloc (Nat.le_refl _) _⟩
  simp only [Array.size_append]
  rw [hsz _ _ (by rfl), hsz _ _ (by rfl)]
  generalize grownCap w (0 + n) 0 (Try.growOp_ren.t 25) = G at *
  simp
  omega
end Go.Proofs.Ytbhfokpakljfoaa
/- slices.Concat at rows of ops. -/
namespace Go.Proofs.Ytbhfokpakljfoaa
open Go.ChangeShapes Go.WideShapes Go.ChangeAt Go.RowKit Go.Lib

/-- what the first k rows hold -/
def catR (rs : List RowR) (k : Nat) : List OpR := (rs.take k).flatMap RowR.l
theorem catR_succ {rs : List RowR} {k : Nat} (h : k < rs.length) : catR rs (k + 1) = catR rs k ++ rs[k].l := by
  unfold catR
  rw [List.take_succ_eq_append_getElem h, List.flatMap_append, List.flatMap_cons, List.flatMap_nil, List.append_nil]
theorem catR_len {rs : List RowR} {k : Nat} (h : k ≤ rs.length) : (catR rs k).length ≤ (catR rs rs.length).length := by
  obtain ⟨d, hd⟩ : ∃ d, rs.length = k + d := ⟨rs.length - k, by omega⟩
  unfold catR
  rw [List.take_length]
  conv => rhs; rw [← List.take_append_drop k rs]
  rw [List.flatMap_append, List.length_append]
  omega
theorem ocs_len (l : List OpR) : (ocs l).length = l.length * 11 := by
  induction l with
  | nil => rfl
  | cons r l ih =>
    show (OpR.cs r ++ ocs l).length = _
    rw [List.length_append, ih, List.length_cons]
    show 11 + _ = _
    omega
theorem ocs_oneR (l : List OpR) : ∀ u ∈ ocs l, u.oneCell' = true := by
  intro u hu
  obtain ⟨r, _, h⟩ := List.mem_flatMap.1 hu
  exact cs_oneR r u h
theorem ops_news {w : World} {ad : Addr} {l : List OpR} (h : OpsAt w (some ad) l) : ∀ j u, (ocs l)[j]? = some u → w.cell? (ad.add j) = some u := by
  intro t u hu
  have ht : t < (ocs l).length := (List.getElem?_eq_some_iff.1 hu).1
  rw [ocs_len] at ht
  have hj : t / 11 < l.length := by omega
  obtain ⟨b, off, h1, h2, h3⟩ := h.cell (t / 11) hj
  simp only [Option.some.injEq] at h1
  subst h1
  have e : t = t / 11 * 11 + t % 11 := by omega
  rw [e, ocs_get l _ _ hj (by omega)] at hu
  have := h3 _ _ hu
  rw [Addr.add_lit]
  rw [Nat.add_assoc, ← e] at this
  exact this
theorem ops_none {w : World} {l : List OpR} (h : OpsAt w none l) : l = [] := by
  by_cases h0 : 0 < l.length
  · obtain ⟨b, off, h1, _⟩ := h.cell 0 h0
    cases h1
  · exact List.eq_nil_of_length_eq_zero (by omega)
theorem run_none {P : Program} {w : World} (base : Nat) (t ty e : TypeId) (i : TypeInfo) (size c : Nat) (ht : P.underlying t = some (.slice e)) (hi : P.info? e = some i)
    (v : Value) (n : Nat) (xs : List Value) (hown : w.ownsRow base e size v n xs) :
    (Builtin.append_ #[t, t] ty #[v, .slice none 0 c]).run P w = .ok v w := by
  rcases hown.2 with ⟨rfl, rfl⟩ | ⟨g, cap, cur, rfl, _, _, hnc, _⟩
  · simp [Builtin.append_, run_underlying ht, Go.sizeOf, typeInfo, hi, Builtin.lenOf, Builtin.firstCells]
  · simp [Builtin.append_, run_underlying ht, Go.sizeOf, typeInfo, hi, Builtin.lenOf, Builtin.firstCells, hnc, storeCells]
theorem wpList_none {P : Program} {w : World} {ops : Array Oper} {rest : List Oper} {o : Oper} {a : Act} {Q : Exit → Act → World → Prop} (hgd : o.guard = none) (s x : Operand) (t : TypeId)
    (ho : o.op = .call { callee := .builtin .append, args := #[s, x], argTypes := #[t, t] })
    (base : Nat) (e : TypeId) (i : TypeInfo) (size c : Nat) (ht : P.underlying t = some (.slice e)) (hi : P.info? e = some i)
    (v : Value) (n : Nat) (xs : List Value) (hs : a.eval s = v) (hown : w.ownsRow base e size v n xs) (hx : a.eval x = .slice none 0 c)
    (h : wpList P ops Q rest (a.put o.dst v) w) : wpList P ops Q (o :: rest) a w := by
  refine wpList_plain hgd fun K hK => ?_
  have hrun := run_none (P := P) (w := w) base t o.type e i size c ht hi v n xs hown
  unfold Oper.wp
  simp [execOp, ho, resolve, invoke, builtin, hs, hx, hrun, Result.andThen]
  exact hK _ _ h
def ConcatPost (rs : List RowR) (w : World) (e : Ending) (w' : World) : Prop := ∃ v, e = .returned v ∧ w'.ownsRow w.heap.size 38 11 v (catR rs rs.length).length (ocs (catR rs rs.length)) ∧ Below w.heap.size w w'

set_option maxRecDepth 100000 in
set_option maxHeartbeats 4000000 in
theorem Concat_any (a : Option Addr) (cap : Nat) (rs : List RowR) (w : World) (h : RowsAt w a rs) (hp : 0 < (catR rs rs.length).length) (hb : (catR rs rs.length).length ≤ 2000000) (hr : rs.length ≤ 1000000) :
    Calls Try.prog 23 #[.slice a rs.length cap] w (ConcatPost rs w) := by
  obtain ⟨i0, hq0, hz0, hz1, hz2⟩ := info_parts Try.infoOp
  have HH := Lib.hid h
  have HS := Lib.hid (fun k (hk : k < rs.length) => catR_succ hk)
  have HLE := Lib.hid (fun k (hk : k ≤ rs.length) => Nat.le_trans (catR_len hk) hb)
  have HP := Lib.hid hp
  obtain ⟨n, hn⟩ : ∃ n, rs.length = n := ⟨_, rfl⟩
  have HN := Lib.hid hn
  have HGR := Lib.hid (fun wx => growOp_nil (catR rs n).length wx (by rw [← hn]; exact hp) (by rw [← hn]; exact hb))
  unfold GrowPost at HGR
  rw [hn] at hr HLE ⊢
  clear h hp hb hn
  go_enter Try.func23, Try.ntmps23
  go_wp2_with fail
  go_loopw [3, 11] (fun s2 s3 wr => ∃ k : Nat, s3 = .int .i64 k ∧ k ≤ n ∧ s2 = .int .i64 (catR rs k).length ∧ w = wr) (fun _ s3 _ => n - (RowKit.intOf s3).toNat)
  case atStart => exact ⟨0, rfl, Nat.zero_le _, rfl, rfl⟩
  case round =>
    obtain ⟨k, rfl, hk, rfl, rfl⟩ := hrel
    by_cases hlt : k < n
    · have hkl : k < rs.length := by rw [HN.out]; exact hlt
      obtain ⟨b, off, rfl, hbb, hc⟩ := HH.out.cell k hkl
      have hz := HS.out k hkl
      have hl1 := HLE.out (k + 1) (by omega)
      rw [hz, List.length_append] at hl1
      have HZ := Lib.hid (congrArg List.length hz)
      rw [List.length_append] at HZ
      clear hz
      have HL0 := Lib.hid (HLE.out k hk)
      generalize rs[k] = r at *
      generalize (catR rs k).length = m at *
      obtain ⟨q, hq⟩ : ∃ q, r.l.length = q := ⟨_, rfl⟩
      rw [hq] at hc hl1 HZ
      go_wp2_with fail
      go_roundw
      case rel => exact ⟨k + 1, by go_num, by omega, by rw [HZ.out]; go_num, by first | rfl | trivial⟩
      case measure => simp [RowKit.intOf] <;> omega
    · have hkn : k = n := by omega
      subst hkn
      have HL0 := HLE.out k (Nat.le_refl _)
      generalize hm : (catR rs k).length = m at *
      have HM := Lib.hid hm
      clear hm
      go_wp2_with (first | (go_at_call 34; refine (HGR.out _).mono ?_; rintro x5 w5 ⟨c5, hc5, rfl, how5, hb5⟩; have HOW5 := Lib.hid how5; have HB5 := Lib.hid hb5; clear how5 hb5) | fail)
      have HOWN : RowKit.Hid (w5.ownsRow w.heap.size 38 11 (.slice (some ⟨w.heap.size, 0, none⟩) 0 c5) (catR rs 0).length (ocs (catR rs 0))) := HOW5
      clear hc5
      go_loopw [6, 27] (fun s6 s27 wz => ∃ i : Nat, s27 = .int .i64 i ∧ i ≤ k ∧ wz.ownsRow w.heap.size 38 11 s6 (catR rs i).length (ocs (catR rs i)) ∧ Below w.heap.size w wz) (fun _ s27 _ => k - (RowKit.intOf s27).toNat)
      case atStart => exact ⟨0, rfl, Nat.zero_le _, HOWN.out, HB5.out⟩
      case round =>
        obtain ⟨i, rfl, hi, how, hbz⟩ := hrel
        have HO := Lib.hid how
        have HB := Lib.hid hbz
        by_cases hik : i < k
        · have hil : i < rs.length := by rw [HN.out]; exact hik
          obtain ⟨b, off, rfl, hbb, hc0⟩ := HH.out.cell i hil
          have hc := (HB.out.cell (p := ⟨b, off + i, none⟩) hbb).trans hc0
          have hrow := HH.out.row i hil
          have hz := HS.out i hil
          have hl1 := HLE.out (i + 1) (by omega)
          have HCAT := Lib.hid hz
          rw [hz, List.length_append] at hl1
          clear hz hc0 how
          have HR := Lib.hid (hrow.1.below HB.out)
          have HRC := Lib.hid hrow.2
          clear hrow
          generalize rs[i] = r at *
          obtain ⟨l, ra, rc⟩ := r
          simp only at hc hl1 HCAT HR HRC
          obtain ⟨q, hq⟩ : ∃ q, l.length = q := ⟨_, rfl⟩
          have HQ := Lib.hid hq
          have HLN : RowKit.Hid ((ocs l).length = q * 11) := Lib.hid (by rw [ocs_len, hq])
          rw [hq] at hc hl1
          have HGE := Lib.hid (fun c (h : u6.ownBlock = some c) => (HO.out.lt c h).1)
          have HM1 := Lib.hid (show (catR rs i).length + q ≤ maxLen from by simp only [maxLen]; omega)
          have HM2 := Lib.hid (show ((catR rs i).length + q) * 112 ≤ 140737488355328 from by omega)
          have HSZ := Lib.hid HB.out.size
          cases ra with
          | none =>
            have hl0 := ops_none HR.out
            subst hl0
            have hq0' : q = 0 := by rw [← hq]; rfl
            subst hq0'
            have HO9 : RowKit.Hid (wr.ownsRow w.heap.size 38 11 u6 (catR rs (i + 1)).length (ocs (catR rs (i + 1)))) := Lib.hid (by rw [HCAT.out, List.append_nil]; exact HO.out)
            clear hbz hq hl1
            go_wp2_with (first
              | (at_builtin; refine wpList_none rfl _ _ 24 rfl w.heap.size 38 i0 11 rc Try.underlying24 hq0 _ (catR rs i).length _ rfl HO.out rfl ?_)
              | fail)
            go_roundw
            case rel => exact ⟨i + 1, by go_num, by omega, HO9.out, HB.out⟩
            case measure => simp [RowKit.intOf] <;> omega
          | some ad =>
            clear hbz hq hl1
            go_wp2_with (first
              | (at_builtin; refine wpList_append_own_at _ rfl _ _ 24 rfl w.heap.size 38 i0 (.agg #[.int .i64 0, .int .i64 0, .int .i64 0, .int .i64 0, .int .i64 0, .int .i64 0, .string ⟨#[]⟩, .slice none 0 0, .int .i64 0, .int .i64 0, .int .i64 0]) 11 112 Try.underlying24 hq0 hz0 hz1 hz2 rfl (by decide) _ (catR rs i).length _ rfl HO.out ad q rc (ocs l) rfl HLN.out (ops_news HR.out) (ocs_oneR l) HM1.out HM2.out HSZ.out ?_; intro v8 w8 hown8 hgrow8 _ _; have HB8 := Lib.hid (HB.out.grown hgrow8 HSZ.out HGE.out); have HO8 := Lib.hid hown8; clear hown8 hgrow8)
              | fail)
            go_roundw
            case rel => exact ⟨i + 1, by go_num, by omega, by rw [HCAT.out, List.length_append, HQ.out, ocs_append]; exact HO8.out, HB8.out⟩
            case measure => simp [RowKit.intOf] <;> omega
        · have hin : i = k := by omega
          subst hin
          clear how hbz
          go_wp2_with fail
          go_ret
          exact ⟨_, rfl, by rw [HN.out]; exact HO.out, HB.out⟩
end Go.Proofs.Ytbhfokpakljfoaa
/- doc.Count, doc.Effective, doc.Rune -/
namespace Go.Proofs.Ytbhfokpakljfoaa
open Go.RowKit Go.Lib

/-- how many, and the error: 3 where no edit bears the name -/
def CouPost (n e : Int) (w : World) (x : Ending) (w' : World) : Prop := x = .returned (.tuple #[.int .i64 n, .int .i64 e]) ∧ Below w.heap.size w w'
def errN (b : Bool) : Int := if b then 0 else 3
theorem row_ci {l : List OpD} (h : okRow l) : CInv l := by
  have := row_ct h l.length (Nat.le_refl _)
  rwa [List.take_length] at this
set_option maxRecDepth 100000 in
set_option maxHeartbeats 2000000 in
theorem dCount_ok (a : Option Addr) (cap : Nat) (l : List OpR) (s q : Int) (w : World) (h : OpsAt w a l) (hr : rowP (OpR.os l)) (hf : (⟨s, q, 0⟩ : El).fit) :
    Calls Try.prog 7 #[.slice a l.length cap, .int .i64 s, .int .i64 q] w (CouPost (ct (OpR.os l) s q) (errN (hasN (OpR.os l) ⟨s, q, 0⟩)) w) := by
  have hl40 : l.length ≤ 40 := by have := hr.1; rw [olen] at this; exact this
  have hck := tCheck_any a cap l w h
  rw [show errO (rowB (OpR.os l)) = 0 from by rw [(rowB_iff _).2 hr]; rfl] at hck
  have HCK := Lib.hid hck
  have HC := Lib.hid (fun wx (hx : Below w.heap.size w wx) => dCounts_any a cap l wx (h.below hx) hr.2 (by omega))
  have HCI := Lib.hid (row_ci hr.2)
  have HLK := Lib.hid (fun (b n : Nat) (wx : World) (hx : MapE wx b n (ctV (OpR.os l))) => (by
    have h := hx.look (t := 61) (z := .int .i64 0) Try.underlying61 (by kernel_rfl) ⟨s, q, 0⟩ hf true
    simp only [if_true] at h
    rw [ctV_get HCI.out, ctV_is] at h
    exact h : (Instr.lookup 61 (.map (some b)) (.agg #[.int .i64 s, .int .i64 q, .int .i64 0]) true).run Try.prog wx = .ok (.tuple #[.int .i64 (ct (OpR.os l) s q), .bool (hasN (OpR.os l) ⟨s, q, 0⟩)]) wx))
  have HZ := Lib.hid (fun (hn : hasN (OpR.os l) ⟨s, q, 0⟩ = false) => HCI.out.1 s q hn)
  obtain ⟨n, hn⟩ : ∃ n, l.length = n := ⟨_, rfl⟩
  rw [hn] at HCK HC ⊢
  clear h hr hck hn hl40 hf HCI
  unfold CntsPost at HC
  generalize hasN (OpR.os l) ⟨s, q, 0⟩ = hb at *
  generalize ct (OpR.os l) s q = c at *
  cases hb
  · have hc0 := HZ.out rfl
    subst hc0
    go_enter Try.func7, Try.ntmps7
    go_wp2_with (first
      | (go_at_call 18; refine HCK.out.mono ?_; rintro x1 w1 ⟨rfl, hb1⟩; have HB1 := Lib.hid hb1; clear hb1)
      | (go_at_call 19; refine (HC.out w1 HB1.out).mono ?_; rintro x2 w2 ⟨cb, rfl, hcb, hmc, hb2⟩; have HMC := Lib.hid hmc; have HB2 := Lib.hid (HB1.out.trans (hb2.mono HB1.out.size)); clear hcb hmc hb2)
      | (go_at_call 20; refine (dName_any _ _ _).mono ?_; rintro x3 w3 ⟨rfl, hb3⟩; have hlk := HLK.out _ _ w3 (HMC.out.kept (hb3.block cb HMC.out.lt)); have HB3 := Lib.hid (HB2.out.trans (hb3.mono HB2.out.size)); clear hb3)
      | fail)
    go_ret2
    exact ⟨rfl, HB3.out⟩
  · go_enter Try.func7, Try.ntmps7
    go_wp2_with (first
      | (go_at_call 18; refine HCK.out.mono ?_; rintro x1 w1 ⟨rfl, hb1⟩; have HB1 := Lib.hid hb1; clear hb1)
      | (go_at_call 19; refine (HC.out w1 HB1.out).mono ?_; rintro x2 w2 ⟨cb, rfl, hcb, hmc, hb2⟩; have HMC := Lib.hid hmc; have HB2 := Lib.hid (HB1.out.trans (hb2.mono HB1.out.size)); clear hcb hmc hb2)
      | (go_at_call 20; refine (dName_any _ _ _).mono ?_; rintro x3 w3 ⟨rfl, hb3⟩; have hlk := HLK.out _ _ w3 (HMC.out.kept (hb3.block cb HMC.out.lt)); have HB3 := Lib.hid (HB2.out.trans (hb3.mono HB2.out.size)); clear hb3)
      | fail)
    go_ret2
    exact ⟨rfl, HB3.out⟩
theorem dCount_bad (a : Option Addr) (cap : Nat) (l : List OpR) (s q : Int) (w : World) (h : OpsAt w a l) (hr : ¬ rowP (OpR.os l)) :
    Calls Try.prog 7 #[.slice a l.length cap, .int .i64 s, .int .i64 q] w (CouPost 0 1 w) := by
  have hck := tCheck_any a cap l w h
  rw [show errO (rowB (OpR.os l)) = 1 from by cases h : rowB (OpR.os l) with | false => rfl | true => exact absurd ((rowB_iff _).1 h) hr] at hck
  have HCK := Lib.hid hck
  generalize l.length = n at *
  clear h hr hck
  go_enter Try.func7, Try.ntmps7
  go_wp2_with (first
    | (go_at_call 18; refine HCK.out.mono ?_; rintro x1 w1 ⟨rfl, hb1⟩; have HB1 := Lib.hid hb1; clear hb1)
    | fail)
  go_ret2
  exact ⟨rfl, HB1.out⟩
def EffPost (b : Bool) (e : Int) (w : World) (x : Ending) (w' : World) : Prop := x = .returned (.tuple #[.bool b, .int .i64 e]) ∧ Below w.heap.size w w'
theorem dEff_ok (a : Option Addr) (cap : Nat) (l : List OpR) (s q : Int) (w : World) (h : OpsAt w a l) (hr : rowP (OpR.os l)) (hf : (⟨s, q, 0⟩ : El).fit) :
    Calls Try.prog 9 #[.slice a l.length cap, .int .i64 s, .int .i64 q] w (EffPost (hasN (OpR.os l) ⟨s, q, 0⟩ && evn (OpR.os l) s q) (errN (hasN (OpR.os l) ⟨s, q, 0⟩)) w) := by
  have hl40 : l.length ≤ 40 := by have := hr.1; rw [olen] at this; exact this
  have HC := Lib.hid (dCount_ok a cap l s q w h hr hf)
  have hle : ct (OpR.os l) s q ≤ 1000 := Nat.le_trans (ct_le _ _ _) (by rw [olen]; omega)
  have HEV := Lib.hid (fun wx => dEven_any (ct (OpR.os l) s q) wx hle)
  unfold evn
  generalize l.length = n at *
  clear h hr hf hl40
  generalize hasN (OpR.os l) ⟨s, q, 0⟩ = hb at *
  generalize ct (OpR.os l) s q = c at *
  generalize decide (c % 2 = 0) = ev at *
  unfold CouPost errN at HC
  unfold errN
  cases hb
  · simp only [Bool.false_eq_true, if_false, Bool.false_and] at HC ⊢
    go_enter Try.func9, Try.ntmps9
    go_wp2_with (first
      | (go_at_call 7; refine HC.out.mono ?_; rintro x1 w1 ⟨rfl, hb1⟩; have HB1 := Lib.hid hb1; clear hb1)
      | fail)
    go_ret2
    exact ⟨rfl, HB1.out⟩
  · simp only [if_true, Bool.true_and] at HC ⊢
    go_enter Try.func9, Try.ntmps9
    go_wp2_with (first
      | (go_at_call 7; refine HC.out.mono ?_; rintro x1 w1 ⟨rfl, hb1⟩; have HB1 := Lib.hid hb1; clear hb1)
      | (go_at_call 22; refine (HEV.out w1).mono ?_; rintro x2 w2 ⟨rfl, hb2⟩; have HB2 := Lib.hid (HB1.out.trans (hb2.mono HB1.out.size)); clear hb2)
      | fail)
    go_ret2
    exact ⟨rfl, HB2.out⟩
theorem dEff_bad (a : Option Addr) (cap : Nat) (l : List OpR) (s q : Int) (w : World) (h : OpsAt w a l) (hr : ¬ rowP (OpR.os l)) :
    Calls Try.prog 9 #[.slice a l.length cap, .int .i64 s, .int .i64 q] w (EffPost false 1 w) := by
  have HC := Lib.hid (dCount_bad a cap l s q w h hr)
  unfold CouPost at HC
  generalize l.length = n at *
  clear h hr
  go_enter Try.func9, Try.ntmps9
  go_wp2_with (first
    | (go_at_call 7; refine HC.out.mono ?_; rintro x1 w1 ⟨rfl, hb1⟩; have HB1 := Lib.hid hb1; clear hb1)
    | fail)
  go_ret2
  exact ⟨rfl, HB1.out⟩
def DRnPost (r e : Int) (w : World) (x : Ending) (w' : World) : Prop := x = .returned (.tuple #[.int .i32 r, .int .i64 e]) ∧ Below w.heap.size w w'
end Go.Proofs.Ytbhfokpakljfoaa
/- the page's Idle -/
namespace Go.Proofs.Ytbhfokpakljfoaa
open Go.RowKit Go.Lib

def idl (l : List OpD) (o : OpD) : Bool := decide (o.kind = 2) && !decide (o.gen = (ct l o.of o.num : Int))
end Go.Proofs.Ytbhfokpakljfoaa
/- doc.Idle -/
namespace Go.Proofs.Ytbhfokpakljfoaa
open Go.ChangeShapes Go.WideShapes Go.ChangeAt Go.RowKit Go.Lib

def ConOne (l : List OpR) (r : OpR) (w : World) (e : Ending) (w' : World) : Prop := ∃ a c, e = .returned (.slice a (l.length + 1) c) ∧ OpsAt w' a (l ++ [r]) ∧ Below w.heap.size w w'
theorem concat_one (a : Option Addr) (cap : Nat) (l : List OpR) (r : OpR) (w : World) (h : OpsAt w a l) (hc : l.length ≤ cap) (hl : l.length ≤ 1000000) (ho : OpAt w r.o r.a r.cap) :
    Calls Try.prog 23 #[.slice (some ⟨w.heap.size + 1, 0, none⟩) 2 2] ((w.alloc (.cells #[.int .i64 r.o.site, .int .i64 r.o.seq, .int .i64 r.o.kind, .int .i64 r.o.after.s, .int .i64 r.o.after.q, .int .i64 r.o.after.i, .string r.o.text, .slice r.a r.o.gone.length r.cap, .int .i64 r.o.of, .int .i64 r.o.num, .int .i64 r.o.gen] 38)).alloc (.cells #[.slice a l.length cap, .slice (some ⟨w.heap.size, 0, none⟩) 1 1] 24)) (ConOne l r w) := by
  have hb1 : Below w.heap.size w (w.alloc (.cells #[.int .i64 r.o.site, .int .i64 r.o.seq, .int .i64 r.o.kind, .int .i64 r.o.after.s, .int .i64 r.o.after.q, .int .i64 r.o.after.i, .string r.o.text, .slice r.a r.o.gone.length r.cap, .int .i64 r.o.of, .int .i64 r.o.num, .int .i64 r.o.gen] 38)) := (Below.refl _ _).alloc (Nat.le_refl _) _
  have hcell := cell_op_newR w r 38
  have hsz : (w.alloc (.cells #[.int .i64 r.o.site, .int .i64 r.o.seq, .int .i64 r.o.kind, .int .i64 r.o.after.s, .int .i64 r.o.after.q, .int .i64 r.o.after.i, .string r.o.text, .slice r.a r.o.gone.length r.cap, .int .i64 r.o.of, .int .i64 r.o.num, .int .i64 r.o.gen] 38)).heap.size = w.heap.size + 1 := by simp
  generalize (w.alloc (.cells #[.int .i64 r.o.site, .int .i64 r.o.seq, .int .i64 r.o.kind, .int .i64 r.o.after.s, .int .i64 r.o.after.q, .int .i64 r.o.after.i, .string r.o.text, .slice r.a r.o.gone.length r.cap, .int .i64 r.o.of, .int .i64 r.o.num, .int .i64 r.o.gen] 38)) = w1 at *
  have hb2 : Below w1.heap.size w1 (w1.alloc (.cells #[.slice a l.length cap, .slice (some ⟨w.heap.size, 0, none⟩) 1 1] 24)) := (Below.refl _ _).alloc (Nat.le_refl _) _
  have hone : OpsAt w1 (some ⟨w.heap.size, 0, none⟩) [r] := ⟨fun j hj => by
    have h0 : j = 0 := by simp at hj; exact hj
    subst h0
    refine ⟨w.heap.size, 0, rfl, by omega, fun c u hu => ?_⟩
    have h9 := hcell c u hu
    rw [Addr.add_lit] at h9
    simpa using h9, fun j hj => by
    have h0 : j = 0 := by simp at hj; exact hj
    subst h0
    exact ho.below hb1, by show 1 ≤ BIG; unfold BIG; omega⟩
  have hn0 : (w1.alloc (.cells #[.slice a l.length cap, .slice (some ⟨w.heap.size, 0, none⟩) 1 1] 24)).cell? ⟨w.heap.size + 1, 0, none⟩ = some (.slice a l.length cap) := by rw [← hsz, World.cell?_alloc_new]; rfl
  have hn1 : (w1.alloc (.cells #[.slice a l.length cap, .slice (some ⟨w.heap.size, 0, none⟩) 1 1] 24)).cell? ⟨w.heap.size + 1, 1, none⟩ = some (.slice (some ⟨w.heap.size, 0, none⟩) 1 1) := by rw [← hsz, World.cell?_alloc_new]; rfl
  have hs2 : (w1.alloc (.cells #[.slice a l.length cap, .slice (some ⟨w.heap.size, 0, none⟩) 1 1] 24)).heap.size = w.heap.size + 2 := by simp [hsz]
  have hbb : Below w.heap.size w (w1.alloc (.cells #[.slice a l.length cap, .slice (some ⟨w.heap.size, 0, none⟩) 1 1] 24)) := hb1.trans (hb2.mono hb1.size)
  generalize (w1.alloc (.cells #[.slice a l.length cap, .slice (some ⟨w.heap.size, 0, none⟩) 1 1] 24)) = w2 at *
  have hrows : RowsAt w2 (some ⟨w.heap.size + 1, 0, none⟩) [⟨l, a, cap⟩, ⟨[r], some ⟨w.heap.size, 0, none⟩, 1⟩] := ⟨fun j hj => by
    match j, hj with
    | 0, _ => exact ⟨_, 0, rfl, by omega, hn0⟩
    | 1, _ => exact ⟨_, 0, rfl, by omega, hn1⟩, fun j hj => by
    match j, hj with
    | 0, _ => exact ⟨h.below hbb, hc⟩
    | 1, _ => exact ⟨hone.below hb2, Nat.le_refl _⟩, by show 2 ≤ BIG; unfold BIG; omega⟩
  have hcat : catR [⟨l, a, cap⟩, ⟨[r], some ⟨w.heap.size, 0, none⟩, 1⟩] 2 = l ++ [r] := by simp [catR]
  have hcon := Concat_any _ 2 _ w2 hrows (by show 0 < (catR _ 2).length; rw [hcat]; simp) (by show (catR _ 2).length ≤ _; rw [hcat]; simp; omega) (by show 2 ≤ 1000000; omega)
  refine Calls.mono hcon ?_
  rintro e w' ⟨v, rfl, how, hbw⟩
  change w'.ownsRow _ _ _ _ (catR _ 2).length (ocs (catR _ 2)) at how
  rw [hcat] at how
  have hbw1 := hbb.trans (hbw.mono hbb.size)
  obtain ⟨a', c', rfl, hops, _⟩ := ops_own how (fun q hq => by
    rcases List.mem_append.1 hq with h1 | h1
    · obtain ⟨j, hj, rfl⟩ := List.getElem_of_mem h1
      exact (h.op j hj).below hbw1
    · rw [List.mem_singleton.1 h1]
      exact ho.below hbw1) (by rw [List.length_append]; show l.length + 1 ≤ BIG; unfold BIG; omega)
  exact ⟨a', c', by rw [List.length_append]; rfl, hops, hbw1⟩
set_option maxRecDepth 100000 in
set_option maxHeartbeats 4000000 in
theorem dIdle_first (a : Option Addr) (cap : Nat) (l : List OpR) (o : OpD) (oa : Option Addr) (oc : Nat) (w : World) (h : OpsAt w a l) (hr : ¬ rowP (OpR.os l)) :
    Calls Try.prog 10 #[.slice a l.length cap, o.v oa oc] w (EffPost false 1 w) := by
  have HB0 : RowKit.Hid (Below w.heap.size w (w.alloc (o.obj oa oc))) := Lib.hid ((Below.refl _ _).alloc (Nat.le_refl _) _)
  have hck := tCheck_any a cap l _ (h.below HB0.out)
  rw [rowB_no hr] at hck
  have HCK := Lib.hid hck
  generalize l.length = n at *
  clear h hr hck
  obtain ⟨site, seq, kind, ⟨es, eq, ei⟩, text, gone, of, num, gen⟩ := o
  unfold OpD.v
  unfold OpD.obj at HCK HB0
  unfold IntB at HCK
  go_enter Try.func10, Try.ntmps10
  go_wp2_with (first
    | (go_at_call 18; refine HCK.out.mono ?_; rintro x1 w1 ⟨rfl, hb1⟩; have HB1 := Lib.hid (HB0.out.trans (hb1.mono HB0.out.size)); clear hb1)
    | fail)
  go_ret2
  exact ⟨rfl, HB1.out⟩
theorem con_check (l : List OpR) (r : OpR) (b : Bool) (hb : rowB (OpR.os l ++ [r.o]) = b) (a : Option Addr) (c : Nat) (w : World) (h : OpsAt w a (l ++ [r])) : Calls Try.prog 18 #[.slice a (l.length + 1) c] w (IntB (errO b) w) := by
  have := tCheck_any a c (l ++ [r]) w h
  rw [show OpR.os (l ++ [r]) = OpR.os l ++ [r.o] from by simp [OpR.os], hb, List.length_append] at this
  exact this
set_option maxRecDepth 100000 in
set_option maxHeartbeats 4000000 in
theorem dIdle_then (a : Option Addr) (cap : Nat) (l : List OpR) (o : OpD) (oa : Option Addr) (oc : Nat) (w : World) (h : OpsAt w a l) (hc : l.length ≤ cap) (hr : rowP (OpR.os l)) (ho : OpAt w o oa oc) (hn : ¬ rowP (OpR.os l ++ [o])) :
    Calls Try.prog 10 #[.slice a l.length cap, o.v oa oc] w (EffPost false 1 w) := by
  have hl40 : l.length ≤ 40 := by have := hr.1; rw [olen] at this; exact this
  have HX := Lib.hid (BoxO.new w o oa oc)
  have HB0 : RowKit.Hid (Below w.heap.size w (w.alloc (o.obj oa oc))) := Lib.hid ((Below.refl _ _).alloc (Nat.le_refl _) _)
  have hck := tCheck_any a cap l _ (h.below HB0.out)
  rw [show errO (rowB (OpR.os l)) = 0 from by rw [(rowB_iff _).2 hr]; rfl] at hck
  have HCK := Lib.hid hck
  have HCC := Lib.hid (fun wx (hx : Below w.heap.size w wx) => concat_one a cap l ⟨o, oa, oc⟩ wx (h.below hx) hc (by omega) (ho.below hx))
  have HCN := Lib.hid (con_check l ⟨o, oa, oc⟩ false (rowB_no hn))
  unfold ConOne at HCC
  generalize (l ++ [⟨o, oa, oc⟩] : List OpR) = L at *
  obtain ⟨n, hln⟩ : ∃ n, l.length = n := ⟨_, rfl⟩
  rw [hln] at HCK HCC HCN ⊢
  clear h hr hck hl40 hln hn hc ho
  obtain ⟨site, seq, kind, ⟨es, eq, ei⟩, text, gone, of, num, gen⟩ := o
  unfold OpD.v
  unfold OpD.obj at HCK HB0 HX
  unfold IntB at HCK HCN
  simp only at HX HB0 HCK HCC ⊢
  obtain ⟨gl, hgg⟩ : ∃ gl, gone.length = gl := ⟨_, rfl⟩
  have HGG := Lib.hid hgg
  rw [hgg] at HX HB0 HCK HCC ⊢
  clear hgg
  generalize hwu : (w.alloc (.cells #[.int .i64 site, .int .i64 seq, .int .i64 kind, .int .i64 es, .int .i64 eq, .int .i64 ei, .string text, .slice oa gl oc, .int .i64 of, .int .i64 num, .int .i64 gen] 38)) = wu at *
  go_enter Try.func10, Try.ntmps10
  go_wp2_with (first
    | (go_at_call 18; refine HC2.out.mono ?_; rintro x3 w3 ⟨rfl, hb3⟩; have HB3 := Lib.hid (HB2.out.trans (hb3.mono HB2.out.size)); clear hb3)
    | (go_at_call 18; (try rw [hwu]); refine HCK.out.mono ?_; rintro x1 w1 ⟨rfl, hb1⟩; have HB1 := Lib.hid (HB0.out.trans (hb1.mono HB0.out.size)); have hx := HX.out.step hb1; have d0 := hx.c0; have d1 := hx.c1; have d2 := hx.c2; have d3 := hx.c3; have d4 := hx.c4; have d5 := hx.c5; have d6 := hx.c6; have d7 := hx.c7; have d8 := hx.c8; have d9 := hx.c9; have da := hx.ca; have dl := hx.lt; simp only [HGG.out] at d0 d1 d2 d3 d4 d5 d6 d7 d8 d9 da; clear hx hb1)
    | (go_at_call 23; refine (HCC.out w1 HB1.out).mono ?_; rintro x2 w2 ⟨a2, c2, rfl, hops2, hb2⟩; have HC2 := Lib.hid (HCN.out a2 c2 w2 hops2); have HB2 := Lib.hid (HB1.out.trans (hb2.mono HB1.out.size)); clear hops2 hb2)
    | fail)
  go_ret2
  exact ⟨rfl, HB3.out⟩
set_option maxRecDepth 100000 in
set_option maxHeartbeats 4000000 in
theorem dIdle_ok (a : Option Addr) (cap : Nat) (l : List OpR) (o : OpD) (oa : Option Addr) (oc : Nat) (w : World) (h : OpsAt w a l) (hc : l.length ≤ cap) (ho : OpAt w o oa oc) (hn : rowP (OpR.os l ++ [o])) (hr : rowP (OpR.os l)) (hf : o.kind = 2 → (⟨o.of, o.num, 0⟩ : El).fit) :
    Calls Try.prog 10 #[.slice a l.length cap, o.v oa oc] w (EffPost (idl (OpR.os l) o) 0 w) := by
  have hl40 : l.length ≤ 40 := by have := hr.1; rw [olen] at this; exact this
  have HX := Lib.hid (BoxO.new w o oa oc)
  have HB0 : RowKit.Hid (Below w.heap.size w (w.alloc (o.obj oa oc))) := Lib.hid ((Below.refl _ _).alloc (Nat.le_refl _) _)
  have hck := tCheck_any a cap l _ (h.below HB0.out)
  rw [show errO (rowB (OpR.os l)) = 0 from by rw [(rowB_iff _).2 hr]; rfl] at hck
  have HCK := Lib.hid hck
  have HCC := Lib.hid (fun wx (hx : Below w.heap.size w wx) => concat_one a cap l ⟨o, oa, oc⟩ wx (h.below hx) hc (by omega) (ho.below hx))
  have HCN := Lib.hid (con_check l ⟨o, oa, oc⟩ true ((rowB_iff _).2 hn))
  have HC := Lib.hid (fun wx (hx : Below w.heap.size w wx) => dCounts_any a cap l wx (h.below hx) hr.2 (by omega))
  have HCI := row_ci hr.2
  have HNX := Lib.hid (fun b m wx (hm : MapE wx b m (ctV (OpR.os l))) (hk : o.kind = 2) => dNext_any b m (OpR.os l) o oa oc wx hm HCI (hf hk))
  unfold ConOne at HCC
  unfold CntsPost at HC
  unfold idl
  generalize (l ++ [⟨o, oa, oc⟩] : List OpR) = L at *
  generalize OpR.os l = D at *
  generalize ct D o.of o.num = cc at *
  obtain ⟨n, hln⟩ : ∃ n, l.length = n := ⟨_, rfl⟩
  rw [hln] at HCK HCC HCN HC ⊢
  clear h hr hck hl40 hln hn hc ho hf HCI
  obtain ⟨site, seq, kind, ⟨es, eq, ei⟩, text, gone, of, num, gen⟩ := o
  unfold OpD.v
  unfold OpD.obj at HCK HB0 HX
  unfold OpD.v at HNX
  unfold IntB at HCK HCN
  unfold BoB at HNX
  simp only at HX HB0 HCK HCC HNX ⊢
  obtain ⟨gl, hgg⟩ : ∃ gl, gone.length = gl := ⟨_, rfl⟩
  have HGG := Lib.hid hgg
  rw [hgg] at HX HB0 HCK HCC HNX ⊢
  clear hgg
  generalize hwu : (w.alloc (.cells #[.int .i64 site, .int .i64 seq, .int .i64 kind, .int .i64 es, .int .i64 eq, .int .i64 ei, .string text, .slice oa gl oc, .int .i64 of, .int .i64 num, .int .i64 gen] 38)) = wu at *
  go_enter Try.func10, Try.ntmps10
  go_upto_region 7 with (first
    | (go_at_call 18; refine HC2.out.mono ?_; rintro x3 w3 ⟨rfl, hb3⟩; have HX3 := Lib.hid (HX2.out.step hb3); have HB3 := Lib.hid (HB2.out.trans (hb3.mono HB2.out.size)); clear hb3)
    | (go_at_call 18; (try rw [hwu]); refine HCK.out.mono ?_; rintro x1 w1 ⟨rfl, hb1⟩; have HB1 := Lib.hid (HB0.out.trans (hb1.mono HB0.out.size)); have hx := HX.out.step hb1; have d0 := hx.c0; have d1 := hx.c1; have d2 := hx.c2; have d3 := hx.c3; have d4 := hx.c4; have d5 := hx.c5; have d6 := hx.c6; have d7 := hx.c7; have d8 := hx.c8; have d9 := hx.c9; have da := hx.ca; have dl := hx.lt; simp only [HGG.out] at d0 d1 d2 d3 d4 d5 d6 d7 d8 d9 da; have HX1 := Lib.hid hx; clear hx hb1)
    | (go_at_call 23; refine (HCC.out w1 HB1.out).mono ?_; rintro x2 w2 ⟨a2, c2, rfl, hops2, hb2⟩; have HC2 := Lib.hid (HCN.out a2 c2 w2 hops2); have HX2 := Lib.hid (HX1.out.step hb2); have HB2 := Lib.hid (HB1.out.trans (hb2.mono HB1.out.size)); clear hops2 hb2)
    | fail)
  clear d0 d1 d2 d3 d4 d5 d6 d7 d8 d9 da dl
  by_cases hk : kind = 2
  · -- @T
    have HB4 : RowKit.Hid (Below w.heap.size w w3.drew) := Lib.hid HB3.out.drew
    have HX4 := Lib.hid (HX3.out.step (Below.refl w3.heap.size w3).drew)
    have hx := HX4.out
    have e0 := hx.c0
    have e1 := hx.c1
    have e2 := hx.c2
    have e3 := hx.c3
    have e4 := hx.c4
    have e5 := hx.c5
    have e6 := hx.c6
    have e7 := hx.c7
    have e8 := hx.c8
    have e9 := hx.c9
    have ea := hx.ca
    have el := hx.lt
    simp only [HGG.out] at e0 e1 e2 e3 e4 e5 e6 e7 e8 e9 ea
    clear hx
    subst hk
    go_region_law (first
      | (go_simp; go_at_call 19; refine (HC.out w3.drew HB4.out).mono ?_; rintro x5 w5 ⟨cb, rfl, hcb, hmc, hb5⟩; have HM5 := Lib.hid hmc; have HB5 := Lib.hid (HB4.out.trans (hb5.mono HB4.out.size)); have hx5 := HX4.out.step hb5; have q0 := hx5.c0; have q1 := hx5.c1; have q2 := hx5.c2; have q3 := hx5.c3; have q4 := hx5.c4; have q5 := hx5.c5; have q6 := hx5.c6; have q7 := hx5.c7; have q8 := hx5.c8; have q9 := hx5.c9; have qa := hx5.ca; simp only [HGG.out] at q0 q1 q2 q3 q4 q5 q6 q7 q8 q9 qa; clear hx5 hcb hmc hb5)
      | (go_simp; go_at_call 24; refine (HNX.out _ _ w5 HM5.out rfl).mono ?_; rintro x6 w6 ⟨rfl, hb6⟩; have HB6 := Lib.hid (HB5.out.trans (hb6.mono HB5.out.size)); clear hb6)
      | fail)
    all_goals
      go_wp2_with fail
      go_ret2
      exact ⟨by first | rfl | simp, HB6.out⟩
    -- @T end
  · -- @F
    have hkd : decide (kind = 2) = false := decide_eq_false hk
    rw [hkd]
    have hx := HX3.out
    have x2 := cell_regrown hx.c2
    have x8 := cell_regrown hx.c8
    have x9 := cell_regrown hx.c9
    have xa := cell_regrown hx.ca
    have xl := hx.lt
    simp only at x2 x8 x9 xa
    clear hx HX HX1 HX2 HX3
    refine wp_region_quiet_below (by kernel_rfl) (by kernel_rfl) ?_
    repeat (first | go_big_quiet_step (fail) | quiet_step (fail))
    refine wpQuiet_nil ?_
    intro _ hw'
    obtain ⟨⟨dq, osq⟩, hw''⟩ := hw'
    subst hw''
    have HB6 := Lib.hid (HB3.out.trans ((below_regrown w3 dq osq).mono HB3.out.size))
    clear x2 x8 x9 xa
    generalize Sort.grow (redrawn w3 dq) osq = wv at *
    go_wp2_with fail
    go_ret2
    exact ⟨by first | rfl | (simp; done) | (simp [hk]), HB6.out⟩
    -- @F end
end Go.Proofs.Ytbhfokpakljfoaa
