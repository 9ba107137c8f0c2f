/- slices.Grow at ops, onto nil. -/
import Derived.Shelf.SlGeneric
import Derived.Shelf.Spec.SlicesGrow
import Derived.Test.YthnedehihbploaaGreatDoorROps
import Derived.Test.YthnedehihbploaaGreatDoorOArgs2
import Derived.Test.YthnedehihbploaaGreatDoorVArgs
import Derived.Test.YthnedehihbploaaGreatDoorYCut
import Derived.Laws.AppendOwnNone
import Derived.Test.YthnedehihbploaaGreatDoorDText
import Derived.Test.YthnedehihbploaaGreatDoorZWith
namespace Go.Proofs
open Go.Shelf
def Tryz.growOp_ren : Go.Shelf.Ren := ⟨fun | 4 => 81 | n => n, fun | 22 => 24 | 25 => 39 | 3 => 3 | 4 => 4 | 9 => 9 | 20 => 20 | 0 => 0 | n => n, fun | n => n⟩
theorem Tryz.growOp : Go.Proofs.Lays8.n4 Tryz.prog Tryz.growOp_ren := {
  mixed := by kernel_rfl
  f4 := ⟨Tryz.f81.name, by decide, Tryz.func81.trans (congrArg some (by kernel_rfl))⟩
  t0 := Tryz.underlying0
  a0 := Tryz.isAgg0
  z0 := Tryz.sizeOf0
  v0 := Tryz.zeroValue0
  t3 := Tryz.underlying3
  a3 := Tryz.isAgg3
  z3 := Tryz.sizeOf3
  v3 := Tryz.zeroValue3
  t4 := Tryz.underlying4
  a4 := Tryz.isAgg4
  z4 := Tryz.sizeOf4
  v4 := Tryz.zeroValue4
  t9 := Tryz.underlying9
  a9 := Tryz.isAgg9
  z9 := Tryz.sizeOf9
  v9 := Tryz.zeroValue9
  t20 := Tryz.underlying20
  a20 := Tryz.isAgg20
  z20 := Tryz.sizeOf20
  v20 := Tryz.zeroValue20
  t22 := Tryz.underlying24
  a22 := Tryz.isAgg24
  z22 := Tryz.sizeOf24
  v22 := Tryz.zeroValue24 }
end Go.Proofs
namespace Go.Proofs.YthnedehihbploaaGreatDoor
open Go.ChangeShapes Go.WideShapes Go.ChangeAt Go.RowKit Go.Lib

def GrowPost (n : Nat) (w : World) (e : Ending) (w' : World) : Prop := ∃ cap, n ≤ cap ∧ e = .returned (.slice (some ⟨w.heap.size, 0, none⟩) 0 cap) ∧ w'.ownsRow w.heap.size 39 11 (.slice (some ⟨w.heap.size, 0, none⟩) 0 cap) 0 [] ∧ Below w.heap.size w w'
theorem owns_none (w w1 : World) (cs : Array Value) (e : TypeId) (size cap : Nat) (hs : w1.heap.size = w.heap.size) (h : cs.size = cap * size) (hm : cap ≤ maxLen) : (w1.alloc (.cells cs e)).ownsRow w.heap.size e size (.slice (some ⟨w.heap.size, 0, none⟩) 0 cap) 0 [] := by
  refine ⟨by simp, .inr ⟨w.heap.size, cap, cs, rfl, Nat.le_refl _, ?_, Nat.zero_le _, hm, h, by simp⟩⟩
  unfold World.alloc
  simp [← hs]
theorem growOp_nil (n : Nat) (w : World) (h0 : 0 < n) (hn : n ≤ 2000000) : Calls Tryz.prog 81 #[.slice none 0 0, .int .i64 n] w (GrowPost n w) := by
  obtain ⟨i0, hq0, hz0, hz1, hz2⟩ := info_parts Tryz.infoOp
  have h := Any8.slices_Grow_grow Tryz.growOp i0 _ hq0 hz0 (by rw [hz1]; decide) none 0 0 n [] w (Nat.le_refl _) (by omega) (by rw [hz2]; omega) (by omega) (by simp) (fun _ => rfl) (fun a ha => by cases ha)
  refine Calls.mono h ?_
  rintro e w' ⟨he, rfl⟩
  have hcap := grownCap_ge w (0 + n) 0 (Tryz.growOp_ren.t 25)
  have hmax := grownCap_le_maxLen w (0 + n) 0 (Tryz.growOp_ren.t 25) (by simp only [maxLen]; omega)
  have hsz : ∀ (z : Array Value) (k : Nat), z.size = 11 → (Builtin.zeroCells z k).size = k * 11 := fun z k hz => by rw [size_zeroCells, hz]
  refine ⟨_, by omega, he, owns_none w w.drew _ _ 11 _ rfl ?_ hmax, ((Below.refl _ _).drew).alloc (Nat.le_refl _) _⟩
  simp only [Array.size_append]
  rw [hsz _ _ (by rfl), hsz _ _ (by rfl)]
  generalize grownCap w (0 + n) 0 (Tryz.growOp_ren.t 25) = G at *
  simp
  omega
end Go.Proofs.YthnedehihbploaaGreatDoor
/- slices.Concat at rows of ops. -/
namespace Go.Proofs.YthnedehihbploaaGreatDoor
open Go.ChangeShapes Go.WideShapes Go.ChangeAt Go.RowKit Go.Lib

/-- what the first k rows hold -/
def catR (rs : List RowR) (k : Nat) : List OpR := (rs.take k).flatMap RowR.l
theorem catR_succ {rs : List RowR} {k : Nat} (h : k < rs.length) : catR rs (k + 1) = catR rs k ++ rs[k].l := by
  unfold catR
  rw [List.take_succ_eq_append_getElem h, List.flatMap_append, List.flatMap_cons, List.flatMap_nil, List.append_nil]
theorem catR_len {rs : List RowR} {k : Nat} (h : k ≤ rs.length) : (catR rs k).length ≤ (catR rs rs.length).length := by
  obtain ⟨d, hd⟩ : ∃ d, rs.length = k + d := ⟨rs.length - k, by omega⟩
  unfold catR
  rw [List.take_length]
  conv => rhs; rw [← List.take_append_drop k rs]
  rw [List.flatMap_append, List.length_append]
  omega
theorem ocs_len (l : List OpR) : (ocs l).length = l.length * 11 := by
  induction l with
  | nil => rfl
  | cons r l ih =>
    show (OpR.cs r ++ ocs l).length = _
    rw [List.length_append, ih, List.length_cons]
    show 11 + _ = _
    omega
theorem ocs_oneR (l : List OpR) : ∀ u ∈ ocs l, u.oneCell' = true := by
  intro u hu
  obtain ⟨r, _, h⟩ := List.mem_flatMap.1 hu
  exact cs_oneR r u h
theorem ops_news {w : World} {ad : Addr} {l : List OpR} (h : OpsAt w (some ad) l) : ∀ j u, (ocs l)[j]? = some u → w.cell? (ad.add j) = some u := by
  intro t u hu
  have ht : t < (ocs l).length := (List.getElem?_eq_some_iff.1 hu).1
  rw [ocs_len] at ht
  have hj : t / 11 < l.length := by omega
  obtain ⟨b, off, h1, h2, h3⟩ := h.cell (t / 11) hj
  simp only [Option.some.injEq] at h1
  subst h1
  have e : t = t / 11 * 11 + t % 11 := by omega
  rw [e, ocs_get l _ _ hj (by omega)] at hu
  have := h3 _ _ hu
  rw [Addr.add_lit]
  rw [Nat.add_assoc, ← e] at this
  exact this
theorem ops_none {w : World} {l : List OpR} (h : OpsAt w none l) : l = [] := by
  by_cases h0 : 0 < l.length
  · obtain ⟨b, off, h1, _⟩ := h.cell 0 h0
    cases h1
  · exact List.eq_nil_of_length_eq_zero (by omega)
theorem run_none {P : Program} {w : World} (base : Nat) (t ty e : TypeId) (i : TypeInfo) (size c : Nat) (ht : P.underlying t = some (.slice e)) (hi : P.info? e = some i)
    (v : Value) (n : Nat) (xs : List Value) (hown : w.ownsRow base e size v n xs) :
    (Builtin.append_ #[t, t] ty #[v, .slice none 0 c]).run P w = .ok v w := by
  rcases hown.2 with ⟨rfl, rfl⟩ | ⟨g, cap, cur, rfl, _, _, hnc, _⟩
  · simp [Builtin.append_, run_underlying ht, Go.sizeOf, typeInfo, hi, Builtin.lenOf, Builtin.firstCells]
  · simp [Builtin.append_, run_underlying ht, Go.sizeOf, typeInfo, hi, Builtin.lenOf, Builtin.firstCells, hnc, storeCells]
theorem wpList_none {P : Program} {w : World} {ops : Array Oper} {rest : List Oper} {o : Oper} {a : Act} {Q : Exit → Act → World → Prop} (hgd : o.guard = none) (s x : Operand) (t : TypeId)
    (ho : o.op = .call { callee := .builtin .append, args := #[s, x], argTypes := #[t, t] })
    (base : Nat) (e : TypeId) (i : TypeInfo) (size c : Nat) (ht : P.underlying t = some (.slice e)) (hi : P.info? e = some i)
    (v : Value) (n : Nat) (xs : List Value) (hs : a.eval s = v) (hown : w.ownsRow base e size v n xs) (hx : a.eval x = .slice none 0 c)
    (h : wpList P ops Q rest (a.put o.dst v) w) : wpList P ops Q (o :: rest) a w := by
  refine wpList_plain hgd fun K hK => ?_
  have hrun := run_none (P := P) (w := w) base t o.type e i size c ht hi v n xs hown
  unfold Oper.wp
  simp [execOp, ho, resolve, invoke, builtin, hs, hx, hrun, Result.andThen]
  exact hK _ _ h
def ConcatPost (rs : List RowR) (w : World) (e : Ending) (w' : World) : Prop := ∃ v, e = .returned v ∧ w'.ownsRow w.heap.size 39 11 v (catR rs rs.length).length (ocs (catR rs rs.length)) ∧ Below w.heap.size w w'

set_option maxRecDepth 100000 in
set_option maxHeartbeats 4000000 in
theorem Concat_any (a : Option Addr) (cap : Nat) (rs : List RowR) (w : World) (h : RowsAt w a rs) (hp : 0 < (catR rs rs.length).length) (hb : (catR rs rs.length).length ≤ 2000000) (hr : rs.length ≤ 1000000) :
    Calls Tryz.prog 44 #[.slice a rs.length cap] w (ConcatPost rs w) := by
  obtain ⟨i0, hq0, hz0, hz1, hz2⟩ := info_parts Tryz.infoOp
  have HH := Lib.hid h
  have HS := Lib.hid (fun k (hk : k < rs.length) => catR_succ hk)
  have HLE := Lib.hid (fun k (hk : k ≤ rs.length) => Nat.le_trans (catR_len hk) hb)
  have HP := Lib.hid hp
  obtain ⟨n, hn⟩ : ∃ n, rs.length = n := ⟨_, rfl⟩
  have HN := Lib.hid hn
  have HGR := Lib.hid (fun wx => growOp_nil (catR rs n).length wx (by rw [← hn]; exact hp) (by rw [← hn]; exact hb))
  unfold GrowPost at HGR
  rw [hn] at hr HLE ⊢
  clear h hp hb hn
  go_enter Tryz.func44, Tryz.ntmps44
  go_wp2_with fail
  go_loopw [3, 11] (fun s2 s3 wr => ∃ k : Nat, s3 = .int .i64 k ∧ k ≤ n ∧ s2 = .int .i64 (catR rs k).length ∧ w = wr) (fun _ s3 _ => n - (RowKit.intOf s3).toNat)
  case atStart => exact ⟨0, rfl, Nat.zero_le _, rfl, rfl⟩
  case round =>
    obtain ⟨k, rfl, hk, rfl, rfl⟩ := hrel
    by_cases hlt : k < n
    · have hkl : k < rs.length := by rw [HN.out]; exact hlt
      obtain ⟨b, off, rfl, hbb, hc⟩ := HH.out.cell k hkl
      have hz := HS.out k hkl
      have hl1 := HLE.out (k + 1) (by omega)
      rw [hz, List.length_append] at hl1
      have HZ := Lib.hid (congrArg List.length hz)
      rw [List.length_append] at HZ
      clear hz
      have HL0 := Lib.hid (HLE.out k hk)
      generalize rs[k] = r at *
      generalize (catR rs k).length = m at *
      obtain ⟨q, hq⟩ : ∃ q, r.l.length = q := ⟨_, rfl⟩
      rw [hq] at hc hl1 HZ
      go_wp2_with fail
      go_roundw
      case rel => exact ⟨k + 1, by go_num, by omega, by rw [HZ.out]; go_num, by first | rfl | trivial⟩
      case measure => simp [RowKit.intOf] <;> omega
    · have hkn : k = n := by omega
      subst hkn
      have HL0 := HLE.out k (Nat.le_refl _)
      generalize hm : (catR rs k).length = m at *
      have HM := Lib.hid hm
      clear hm
      go_wp2_with (first | (go_at_call 81; refine (HGR.out _).mono ?_; rintro x5 w5 ⟨c5, hc5, rfl, how5, hb5⟩; have HOW5 := Lib.hid how5; have HB5 := Lib.hid hb5; clear how5 hb5) | fail)
      have HOWN : RowKit.Hid (w5.ownsRow w.heap.size 39 11 (.slice (some ⟨w.heap.size, 0, none⟩) 0 c5) (catR rs 0).length (ocs (catR rs 0))) := HOW5
      clear hc5
      go_loopw [6, 27] (fun s6 s27 wz => ∃ i : Nat, s27 = .int .i64 i ∧ i ≤ k ∧ wz.ownsRow w.heap.size 39 11 s6 (catR rs i).length (ocs (catR rs i)) ∧ Below w.heap.size w wz) (fun _ s27 _ => k - (RowKit.intOf s27).toNat)
      case atStart => exact ⟨0, rfl, Nat.zero_le _, HOWN.out, HB5.out⟩
      case round =>
        obtain ⟨i, rfl, hi, how, hbz⟩ := hrel
        have HO := Lib.hid how
        have HB := Lib.hid hbz
        by_cases hik : i < k
        · have hil : i < rs.length := by rw [HN.out]; exact hik
          obtain ⟨b, off, rfl, hbb, hc0⟩ := HH.out.cell i hil
          have hc := (HB.out.cell (p := ⟨b, off + i, none⟩) hbb).trans hc0
          have hrow := HH.out.row i hil
          have hz := HS.out i hil
          have hl1 := HLE.out (i + 1) (by omega)
          have HCAT := Lib.hid hz
          rw [hz, List.length_append] at hl1
          clear hz hc0 how
          have HR := Lib.hid (hrow.1.below HB.out)
          have HRC := Lib.hid hrow.2
          clear hrow
          generalize rs[i] = r at *
          obtain ⟨l, ra, rc⟩ := r
          simp only at hc hl1 HCAT HR HRC
          obtain ⟨q, hq⟩ : ∃ q, l.length = q := ⟨_, rfl⟩
          have HQ := Lib.hid hq
          have HLN : RowKit.Hid ((ocs l).length = q * 11) := Lib.hid (by rw [ocs_len, hq])
          rw [hq] at hc hl1
          have HGE := Lib.hid (fun c (h : u6.ownBlock = some c) => (HO.out.lt c h).1)
          have HM1 := Lib.hid (show (catR rs i).length + q ≤ maxLen from by simp only [maxLen]; omega)
          have HM2 := Lib.hid (show ((catR rs i).length + q) * 112 ≤ 140737488355328 from by omega)
          have HSZ := Lib.hid HB.out.size
          cases ra with
          | none =>
            have hl0 := ops_none HR.out
            subst hl0
            have hq0' : q = 0 := by rw [← hq]; rfl
            subst hq0'
            have HO9 : RowKit.Hid (wr.ownsRow w.heap.size 39 11 u6 (catR rs (i + 1)).length (ocs (catR rs (i + 1)))) := Lib.hid (by rw [HCAT.out, List.append_nil]; exact HO.out)
            clear hbz hq hl1
            go_wp2_with (first
              | (at_builtin; refine wpList_none rfl _ _ 24 rfl w.heap.size 39 i0 11 rc Tryz.underlying24 hq0 _ (catR rs i).length _ rfl HO.out rfl ?_)
              | fail)
            go_roundw
            case rel => exact ⟨i + 1, by go_num, by omega, HO9.out, HB.out⟩
            case measure => simp [RowKit.intOf] <;> omega
          | some ad =>
            clear hbz hq hl1
            go_wp2_with (first
              | (at_builtin; refine wpList_append_own_at _ rfl _ _ 24 rfl w.heap.size 39 i0 (.agg #[.int .i64 0, .int .i64 0, .int .i64 0, .int .i64 0, .int .i64 0, .int .i64 0, .string ⟨#[]⟩, .slice none 0 0, .int .i64 0, .int .i64 0, .int .i64 0]) 11 112 Tryz.underlying24 hq0 hz0 hz1 hz2 rfl (by decide) _ (catR rs i).length _ rfl HO.out ad q rc (ocs l) rfl HLN.out (ops_news HR.out) (ocs_oneR l) HM1.out HM2.out HSZ.out ?_; intro v8 w8 hown8 hgrow8 _ _; have HB8 := Lib.hid (HB.out.grown hgrow8 HSZ.out HGE.out); have HO8 := Lib.hid hown8; clear hown8 hgrow8)
              | fail)
            go_roundw
            case rel => exact ⟨i + 1, by go_num, by omega, by rw [HCAT.out, List.length_append, HQ.out, ocs_append]; exact HO8.out, HB8.out⟩
            case measure => simp [RowKit.intOf] <;> omega
        · have hin : i = k := by omega
          subst hin
          clear how hbz
          go_wp2_with fail
          go_ret
          exact ⟨_, rfl, by rw [HN.out]; exact HO.out, HB.out⟩
end Go.Proofs.YthnedehihbploaaGreatDoor
/- doc.Count, doc.Effective, doc.Rune -/
namespace Go.Proofs.YthnedehihbploaaGreatDoor
open Go.RowKit Go.Lib

/-- how many, and the error: 3 where no edit bears the name -/
def CouPost (n e : Int) (w : World) (x : Ending) (w' : World) : Prop := x = .returned (.tuple #[.int .i64 n, .int .i64 e]) ∧ Below w.heap.size w w'
def errN (b : Bool) : Int := if b then 0 else 3
theorem row_ci {l : List OpD} (h : okRow l) : CInv l := by
  have := row_ct h l.length (Nat.le_refl _)
  rwa [List.take_length] at this
def EffPost (b : Bool) (e : Int) (w : World) (x : Ending) (w' : World) : Prop := x = .returned (.tuple #[.bool b, .int .i64 e]) ∧ Below w.heap.size w w'
def DRnPost (r e : Int) (w : World) (x : Ending) (w' : World) : Prop := x = .returned (.tuple #[.int .i32 r, .int .i64 e]) ∧ Below w.heap.size w w'
end Go.Proofs.YthnedehihbploaaGreatDoor
/- the page's Idle -/
namespace Go.Proofs.YthnedehihbploaaGreatDoor
open Go.RowKit Go.Lib

def idl (l : List OpD) (o : OpD) : Bool := decide (o.kind = 2) && !decide (o.gen = (ct l o.of o.num : Int))
end Go.Proofs.YthnedehihbploaaGreatDoor
/- doc.Idle -/
namespace Go.Proofs.YthnedehihbploaaGreatDoor
open Go.ChangeShapes Go.WideShapes Go.ChangeAt Go.RowKit Go.Lib

def ConOne (l : List OpR) (r : OpR) (w : World) (e : Ending) (w' : World) : Prop := ∃ a c, e = .returned (.slice a (l.length + 1) c) ∧ OpsAt w' a (l ++ [r]) ∧ Below w.heap.size w w'
theorem concat_one (a : Option Addr) (cap : Nat) (l : List OpR) (r : OpR) (w : World) (h : OpsAt w a l) (hc : l.length ≤ cap) (hl : l.length ≤ 1000000) (ho : OpAt w r.o r.a r.cap) :
    Calls Tryz.prog 44 #[.slice (some ⟨w.heap.size + 1, 0, none⟩) 2 2] ((w.alloc (.cells #[.int .i64 r.o.site, .int .i64 r.o.seq, .int .i64 r.o.kind, .int .i64 r.o.after.s, .int .i64 r.o.after.q, .int .i64 r.o.after.i, .string r.o.text, .slice r.a r.o.gone.length r.cap, .int .i64 r.o.of, .int .i64 r.o.num, .int .i64 r.o.gen] 39)).alloc (.cells #[.slice a l.length cap, .slice (some ⟨w.heap.size, 0, none⟩) 1 1] 24)) (ConOne l r w) := by
  have hb1 : Below w.heap.size w (w.alloc (.cells #[.int .i64 r.o.site, .int .i64 r.o.seq, .int .i64 r.o.kind, .int .i64 r.o.after.s, .int .i64 r.o.after.q, .int .i64 r.o.after.i, .string r.o.text, .slice r.a r.o.gone.length r.cap, .int .i64 r.o.of, .int .i64 r.o.num, .int .i64 r.o.gen] 39)) := (Below.refl _ _).alloc (Nat.le_refl _) _
  have hcell := cell_op_newR w r 39
  have hsz : (w.alloc (.cells #[.int .i64 r.o.site, .int .i64 r.o.seq, .int .i64 r.o.kind, .int .i64 r.o.after.s, .int .i64 r.o.after.q, .int .i64 r.o.after.i, .string r.o.text, .slice r.a r.o.gone.length r.cap, .int .i64 r.o.of, .int .i64 r.o.num, .int .i64 r.o.gen] 39)).heap.size = w.heap.size + 1 := by simp
  generalize (w.alloc (.cells #[.int .i64 r.o.site, .int .i64 r.o.seq, .int .i64 r.o.kind, .int .i64 r.o.after.s, .int .i64 r.o.after.q, .int .i64 r.o.after.i, .string r.o.text, .slice r.a r.o.gone.length r.cap, .int .i64 r.o.of, .int .i64 r.o.num, .int .i64 r.o.gen] 39)) = w1 at *
  have hb2 : Below w1.heap.size w1 (w1.alloc (.cells #[.slice a l.length cap, .slice (some ⟨w.heap.size, 0, none⟩) 1 1] 24)) := (Below.refl _ _).alloc (Nat.le_refl _) _
  have hone : OpsAt w1 (some ⟨w.heap.size, 0, none⟩) [r] := ⟨fun j hj => by
    have h0 : j = 0 := by simp at hj; exact hj
    subst h0
    refine ⟨w.heap.size, 0, rfl, by omega, fun c u hu => ?_⟩
    have h9 := hcell c u hu
    rw [Addr.add_lit] at h9
    simpa using h9, fun j hj => by
    have h0 : j = 0 := by simp at hj; exact hj
    subst h0
    exact ho.below hb1, by show 1 ≤ BIG; unfold BIG; omega⟩
  have hn0 : (w1.alloc (.cells #[.slice a l.length cap, .slice (some ⟨w.heap.size, 0, none⟩) 1 1] 24)).cell? ⟨w.heap.size + 1, 0, none⟩ = some (.slice a l.length cap) := by rw [← hsz, World.cell?_alloc_new]; rfl
  have hn1 : (w1.alloc (.cells #[.slice a l.length cap, .slice (some ⟨w.heap.size, 0, none⟩) 1 1] 24)).cell? ⟨w.heap.size + 1, 1, none⟩ = some (.slice (some ⟨w.heap.size, 0, none⟩) 1 1) := by rw [← hsz, World.cell?_alloc_new]; rfl
  have hs2 : (w1.alloc (.cells #[.slice a l.length cap, .slice (some ⟨w.heap.size, 0, none⟩) 1 1] 24)).heap.size = w.heap.size + 2 := by simp [hsz]
  have hbb : Below w.heap.size w (w1.alloc (.cells #[.slice a l.length cap, .slice (some ⟨w.heap.size, 0, none⟩) 1 1] 24)) := hb1.trans (hb2.mono hb1.size)
  generalize (w1.alloc (.cells #[.slice a l.length cap, .slice (some ⟨w.heap.size, 0, none⟩) 1 1] 24)) = w2 at *
  have hrows : RowsAt w2 (some ⟨w.heap.size + 1, 0, none⟩) [⟨l, a, cap⟩, ⟨[r], some ⟨w.heap.size, 0, none⟩, 1⟩] := ⟨fun j hj => by
    match j, hj with
    | 0, _ => exact ⟨_, 0, rfl, by omega, hn0⟩
    | 1, _ => exact ⟨_, 0, rfl, by omega, hn1⟩, fun j hj => by
    match j, hj with
    | 0, _ => exact ⟨h.below hbb, hc⟩
    | 1, _ => exact ⟨hone.below hb2, Nat.le_refl _⟩, by show 2 ≤ BIG; unfold BIG; omega⟩
  have hcat : catR [⟨l, a, cap⟩, ⟨[r], some ⟨w.heap.size, 0, none⟩, 1⟩] 2 = l ++ [r] := by simp [catR]
  have hcon := Concat_any _ 2 _ w2 hrows (by show 0 < (catR _ 2).length; rw [hcat]; simp) (by show (catR _ 2).length ≤ _; rw [hcat]; simp; omega) (by show 2 ≤ 1000000; omega)
  refine Calls.mono hcon ?_
  rintro e w' ⟨v, rfl, how, hbw⟩
  change w'.ownsRow _ _ _ _ (catR _ 2).length (ocs (catR _ 2)) at how
  rw [hcat] at how
  have hbw1 := hbb.trans (hbw.mono hbb.size)
  obtain ⟨a', c', rfl, hops, _⟩ := ops_own how (fun q hq => by
    rcases List.mem_append.1 hq with h1 | h1
    · obtain ⟨j, hj, rfl⟩ := List.getElem_of_mem h1
      exact (h.op j hj).below hbw1
    · rw [List.mem_singleton.1 h1]
      exact ho.below hbw1) (by rw [List.length_append]; show l.length + 1 ≤ BIG; unfold BIG; omega)
  exact ⟨a', c', by rw [List.length_append]; rfl, hops, hbw1⟩
theorem con_check (l : List OpR) (r : OpR) (b : Bool) (hb : rowB (OpR.os l ++ [r.o]) = b) (a : Option Addr) (c : Nat) (w : World) (h : OpsAt w a (l ++ [r])) : Calls Tryz.prog 97 #[.slice a (l.length + 1) c] w (IntB (errO b) w) := by
  have := tCheck_any a c (l ++ [r]) w h
  rw [show OpR.os (l ++ [r]) = OpR.os l ++ [r.o] from by simp [OpR.os], hb, List.length_append] at this
  exact this
end Go.Proofs.YthnedehihbploaaGreatDoor
