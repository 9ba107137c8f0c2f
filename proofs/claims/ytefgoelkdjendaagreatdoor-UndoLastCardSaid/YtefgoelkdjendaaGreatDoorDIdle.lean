/- slices.Grow at ops, onto nil. -/
import Derived.Shelf.SlGeneric
import Derived.Shelf.Spec.SlicesGrow
import Derived.Test.YtefgoelkdjendaaGreatDoorROps
import Derived.Test.YtefgoelkdjendaaGreatDoorOArgs2
import Derived.Test.YtefgoelkdjendaaGreatDoorVArgs
import Derived.Test.YtefgoelkdjendaaGreatDoorYCut
import Derived.Laws.AppendOwnNone
import Derived.Test.YtefgoelkdjendaaGreatDoorDText
import Derived.Test.YtefgoelkdjendaaGreatDoorZWith
namespace Go.Proofs
open Go.Shelf
end Go.Proofs
namespace Go.Proofs.YtefgoelkdjendaaGreatDoor
open Go.ChangeShapes Go.WideShapes Go.ChangeAt Go.RowKit Go.Lib

def GrowPost (n : Nat) (w : World) (e : Ending) (w' : World) : Prop := ∃ cap, n ≤ cap ∧ e = .returned (.slice (some ⟨w.heap.size, 0, none⟩) 0 cap) ∧ w'.ownsRow w.heap.size 33 11 (.slice (some ⟨w.heap.size, 0, none⟩) 0 cap) 0 [] ∧ Below w.heap.size w w'
theorem owns_none (w w1 : World) (cs : Array Value) (e : TypeId) (size cap : Nat) (hs : w1.heap.size = w.heap.size) (h : cs.size = cap * size) (hm : cap ≤ maxLen) : (w1.alloc (.cells cs e)).ownsRow w.heap.size e size (.slice (some ⟨w.heap.size, 0, none⟩) 0 cap) 0 [] := by
  refine ⟨by simp, .inr ⟨w.heap.size, cap, cs, rfl, Nat.le_refl _, ?_, Nat.zero_le _, hm, h, by simp⟩⟩
  unfold World.alloc
  simp [← hs]
end Go.Proofs.YtefgoelkdjendaaGreatDoor
/- slices.Concat at rows of ops. -/
namespace Go.Proofs.YtefgoelkdjendaaGreatDoor
open Go.ChangeShapes Go.WideShapes Go.ChangeAt Go.RowKit Go.Lib

/-- what the first k rows hold -/
def catR (rs : List RowR) (k : Nat) : List OpR := (rs.take k).flatMap RowR.l
theorem catR_succ {rs : List RowR} {k : Nat} (h : k < rs.length) : catR rs (k + 1) = catR rs k ++ rs[k].l := by
  unfold catR
  rw [List.take_succ_eq_append_getElem h, List.flatMap_append, List.flatMap_cons, List.flatMap_nil, List.append_nil]
theorem catR_len {rs : List RowR} {k : Nat} (h : k ≤ rs.length) : (catR rs k).length ≤ (catR rs rs.length).length := by
  obtain ⟨d, hd⟩ : ∃ d, rs.length = k + d := ⟨rs.length - k, by omega⟩
  unfold catR
  rw [List.take_length]
  conv => rhs; rw [← List.take_append_drop k rs]
  rw [List.flatMap_append, List.length_append]
  omega
theorem ocs_len (l : List OpR) : (ocs l).length = l.length * 11 := by
  induction l with
  | nil => rfl
  | cons r l ih =>
    show (OpR.cs r ++ ocs l).length = _
    rw [List.length_append, ih, List.length_cons]
    show 11 + _ = _
    omega
theorem ocs_oneR (l : List OpR) : ∀ u ∈ ocs l, u.oneCell' = true := by
  intro u hu
  obtain ⟨r, _, h⟩ := List.mem_flatMap.1 hu
  exact cs_oneR r u h
theorem ops_news {w : World} {ad : Addr} {l : List OpR} (h : OpsAt w (some ad) l) : ∀ j u, (ocs l)[j]? = some u → w.cell? (ad.add j) = some u := by
  intro t u hu
  have ht : t < (ocs l).length := (List.getElem?_eq_some_iff.1 hu).1
  rw [ocs_len] at ht
  have hj : t / 11 < l.length := by omega
  obtain ⟨b, off, h1, h2, h3⟩ := h.cell (t / 11) hj
  simp only [Option.some.injEq] at h1
  subst h1
  have e : t = t / 11 * 11 + t % 11 := by omega
  rw [e, ocs_get l _ _ hj (by omega)] at hu
  have := h3 _ _ hu
  rw [Addr.add_lit]
  rw [Nat.add_assoc, ← e] at this
  exact this
theorem ops_none {w : World} {l : List OpR} (h : OpsAt w none l) : l = [] := by
  by_cases h0 : 0 < l.length
  · obtain ⟨b, off, h1, _⟩ := h.cell 0 h0
    cases h1
  · exact List.eq_nil_of_length_eq_zero (by omega)
theorem run_none {P : Program} {w : World} (base : Nat) (t ty e : TypeId) (i : TypeInfo) (size c : Nat) (ht : P.underlying t = some (.slice e)) (hi : P.info? e = some i)
    (v : Value) (n : Nat) (xs : List Value) (hown : w.ownsRow base e size v n xs) :
    (Builtin.append_ #[t, t] ty #[v, .slice none 0 c]).run P w = .ok v w := by
  rcases hown.2 with ⟨rfl, rfl⟩ | ⟨g, cap, cur, rfl, _, _, hnc, _⟩
  · simp [Builtin.append_, run_underlying ht, Go.sizeOf, typeInfo, hi, Builtin.lenOf, Builtin.firstCells]
  · simp [Builtin.append_, run_underlying ht, Go.sizeOf, typeInfo, hi, Builtin.lenOf, Builtin.firstCells, hnc, storeCells]
theorem wpList_none {P : Program} {w : World} {ops : Array Oper} {rest : List Oper} {o : Oper} {a : Act} {Q : Exit → Act → World → Prop} (hgd : o.guard = none) (s x : Operand) (t : TypeId)
    (ho : o.op = .call { callee := .builtin .append, args := #[s, x], argTypes := #[t, t] })
    (base : Nat) (e : TypeId) (i : TypeInfo) (size c : Nat) (ht : P.underlying t = some (.slice e)) (hi : P.info? e = some i)
    (v : Value) (n : Nat) (xs : List Value) (hs : a.eval s = v) (hown : w.ownsRow base e size v n xs) (hx : a.eval x = .slice none 0 c)
    (h : wpList P ops Q rest (a.put o.dst v) w) : wpList P ops Q (o :: rest) a w := by
  refine wpList_plain hgd fun K hK => ?_
  have hrun := run_none (P := P) (w := w) base t o.type e i size c ht hi v n xs hown
  unfold Oper.wp
  simp [execOp, ho, resolve, invoke, builtin, hs, hx, hrun, Result.andThen]
  exact hK _ _ h
def ConcatPost (rs : List RowR) (w : World) (e : Ending) (w' : World) : Prop := ∃ v, e = .returned v ∧ w'.ownsRow w.heap.size 33 11 v (catR rs rs.length).length (ocs (catR rs rs.length)) ∧ Below w.heap.size w w'

end Go.Proofs.YtefgoelkdjendaaGreatDoor
/- doc.Count, doc.Effective, doc.Rune -/
namespace Go.Proofs.YtefgoelkdjendaaGreatDoor
open Go.RowKit Go.Lib

/-- how many, and the error: 3 where no edit bears the name -/
def CouPost (n e : Int) (w : World) (x : Ending) (w' : World) : Prop := x = .returned (.tuple #[.int .i64 n, .int .i64 e]) ∧ Below w.heap.size w w'
def errN (b : Bool) : Int := if b then 0 else 3
theorem row_ci {l : List OpD} (h : okRow l) : CInv l := by
  have := row_ct h l.length (Nat.le_refl _)
  rwa [List.take_length] at this
set_option maxRecDepth 100000 in
set_option maxHeartbeats 2000000 in
theorem dCount_ok (a : Option Addr) (cap : Nat) (l : List OpR) (s q : Int) (w : World) (h : OpsAt w a l) (hr : rowP (OpR.os l)) (hf : (⟨s, q, 0⟩ : El).fit) :
    Calls Tryz.prog 36 #[.slice a l.length cap, .int .i64 s, .int .i64 q] w (CouPost (ct (OpR.os l) s q) (errN (hasN (OpR.os l) ⟨s, q, 0⟩)) w) := by
  have hl40 : l.length ≤ 40 := by have := hr.1; rw [olen] at this; exact this
  have hck := tCheck_any a cap l w h
  rw [show errO (rowB (OpR.os l)) = 0 from by rw [(rowB_iff _).2 hr]; rfl] at hck
  have HCK := Lib.hid hck
  have HC := Lib.hid (fun wx (hx : Below w.heap.size w wx) => dCounts_any a cap l wx (h.below hx) hr.2 (by omega))
  have HCI := Lib.hid (row_ci hr.2)
  have HLK := Lib.hid (fun (b n : Nat) (wx : World) (hx : MapE wx b n (ctV (OpR.os l))) => (by
    have h := hx.look (t := 97) (z := .int .i64 0) Tryz.underlying97 (by kernel_rfl) ⟨s, q, 0⟩ hf true
    simp only [if_true] at h
    rw [ctV_get HCI.out, ctV_is] at h
    exact h : (Instr.lookup 97 (.map (some b)) (.agg #[.int .i64 s, .int .i64 q, .int .i64 0]) true).run Tryz.prog wx = .ok (.tuple #[.int .i64 (ct (OpR.os l) s q), .bool (hasN (OpR.os l) ⟨s, q, 0⟩)]) wx))
  have HZ := Lib.hid (fun (hn : hasN (OpR.os l) ⟨s, q, 0⟩ = false) => HCI.out.1 s q hn)
  obtain ⟨n, hn⟩ : ∃ n, l.length = n := ⟨_, rfl⟩
  rw [hn] at HCK HC ⊢
  clear h hr hck hn hl40 hf HCI
  unfold CntsPost at HC
  generalize hasN (OpR.os l) ⟨s, q, 0⟩ = hb at *
  generalize ct (OpR.os l) s q = c at *
  cases hb
  · have hc0 := HZ.out rfl
    subst hc0
    go_enter Tryz.func36, Tryz.ntmps36
    go_wp2_with (first
      | (go_at_call 66; refine HCK.out.mono ?_; rintro x1 w1 ⟨rfl, hb1⟩; have HB1 := Lib.hid hb1; clear hb1)
      | (go_at_call 48; refine (HC.out w1 HB1.out).mono ?_; rintro x2 w2 ⟨cb, rfl, hcb, hmc, hb2⟩; have HMC := Lib.hid hmc; have HB2 := Lib.hid (HB1.out.trans (hb2.mono HB1.out.size)); clear hcb hmc hb2)
      | (go_at_call 52; refine (dName_any _ _ _).mono ?_; rintro x3 w3 ⟨rfl, hb3⟩; have hlk := HLK.out _ _ w3 (HMC.out.kept (hb3.block cb HMC.out.lt)); have HB3 := Lib.hid (HB2.out.trans (hb3.mono HB2.out.size)); clear hb3)
      | fail)
    go_ret2
    exact ⟨rfl, HB3.out⟩
  · go_enter Tryz.func36, Tryz.ntmps36
    go_wp2_with (first
      | (go_at_call 66; refine HCK.out.mono ?_; rintro x1 w1 ⟨rfl, hb1⟩; have HB1 := Lib.hid hb1; clear hb1)
      | (go_at_call 48; refine (HC.out w1 HB1.out).mono ?_; rintro x2 w2 ⟨cb, rfl, hcb, hmc, hb2⟩; have HMC := Lib.hid hmc; have HB2 := Lib.hid (HB1.out.trans (hb2.mono HB1.out.size)); clear hcb hmc hb2)
      | (go_at_call 52; refine (dName_any _ _ _).mono ?_; rintro x3 w3 ⟨rfl, hb3⟩; have hlk := HLK.out _ _ w3 (HMC.out.kept (hb3.block cb HMC.out.lt)); have HB3 := Lib.hid (HB2.out.trans (hb3.mono HB2.out.size)); clear hb3)
      | fail)
    go_ret2
    exact ⟨rfl, HB3.out⟩
theorem dCount_bad (a : Option Addr) (cap : Nat) (l : List OpR) (s q : Int) (w : World) (h : OpsAt w a l) (hr : ¬ rowP (OpR.os l)) :
    Calls Tryz.prog 36 #[.slice a l.length cap, .int .i64 s, .int .i64 q] w (CouPost 0 1 w) := by
  have hck := tCheck_any a cap l w h
  rw [show errO (rowB (OpR.os l)) = 1 from by cases h : rowB (OpR.os l) with | false => rfl | true => exact absurd ((rowB_iff _).1 h) hr] at hck
  have HCK := Lib.hid hck
  generalize l.length = n at *
  clear h hr hck
  go_enter Tryz.func36, Tryz.ntmps36
  go_wp2_with (first
    | (go_at_call 66; refine HCK.out.mono ?_; rintro x1 w1 ⟨rfl, hb1⟩; have HB1 := Lib.hid hb1; clear hb1)
    | fail)
  go_ret2
  exact ⟨rfl, HB1.out⟩
def EffPost (b : Bool) (e : Int) (w : World) (x : Ending) (w' : World) : Prop := x = .returned (.tuple #[.bool b, .int .i64 e]) ∧ Below w.heap.size w w'
def DRnPost (r e : Int) (w : World) (x : Ending) (w' : World) : Prop := x = .returned (.tuple #[.int .i32 r, .int .i64 e]) ∧ Below w.heap.size w w'
end Go.Proofs.YtefgoelkdjendaaGreatDoor
/- the page's Idle -/
namespace Go.Proofs.YtefgoelkdjendaaGreatDoor
open Go.RowKit Go.Lib

def idl (l : List OpD) (o : OpD) : Bool := decide (o.kind = 2) && !decide (o.gen = (ct l o.of o.num : Int))
end Go.Proofs.YtefgoelkdjendaaGreatDoor
/- doc.Idle -/
namespace Go.Proofs.YtefgoelkdjendaaGreatDoor
open Go.ChangeShapes Go.WideShapes Go.ChangeAt Go.RowKit Go.Lib

def ConOne (l : List OpR) (r : OpR) (w : World) (e : Ending) (w' : World) : Prop := ∃ a c, e = .returned (.slice a (l.length + 1) c) ∧ OpsAt w' a (l ++ [r]) ∧ Below w.heap.size w w'
theorem con_check (l : List OpR) (r : OpR) (b : Bool) (hb : rowB (OpR.os l ++ [r.o]) = b) (a : Option Addr) (c : Nat) (w : World) (h : OpsAt w a (l ++ [r])) : Calls Tryz.prog 66 #[.slice a (l.length + 1) c] w (IntB (errO b) w) := by
  have := tCheck_any a c (l ++ [r]) w h
  rw [show OpR.os (l ++ [r]) = OpR.os l ++ [r.o] from by simp [OpR.os], hb, List.length_append] at this
  exact this
end Go.Proofs.YtefgoelkdjendaaGreatDoor
