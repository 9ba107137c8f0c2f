/- slices.Clone, slices.Grow and slices.Concat at sectors, slices.Repeat at one text; strings.Repeat; bytes that are 0 -/
import Derived.Test.YtlmfieeemkahfaaDkD
import Derived.Test.YtlmfieeemkahfaaShelfR
import Derived.Shelf.SlGeneric
import Derived.Shelf.Spec.SlicesGrow
import Derived.Shelf.Spec.SlicesInsert
import Derived.Laws.AppendOwnNone
import Derived.Laws.IdiomCopy
import Derived.Laws.MakeOwn
import Derived.Lib.SliceRun
namespace Go.Proofs
open Go.Shelf
def Try.growSec_ren : Go.Shelf.Ren := ⟨fun | 4 => 53 | n => n, fun | 22 => 23 | 25 => 73 | 3 => 3 | 4 => 4 | 9 => 9 | 20 => 20 | 0 => 0 | n => n, fun | n => n⟩
theorem Try.growSec : Go.Proofs.Lays8.n4 Try.prog Try.growSec_ren := {
  mixed := by kernel_rfl
  f4 := ⟨Try.f53.name, by decide, Try.func53.trans (congrArg some (by kernel_rfl))⟩
  t0 := Try.underlying0
  a0 := Try.isAgg0
  z0 := Try.sizeOf0
  v0 := Try.zeroValue0
  t3 := Try.underlying3
  a3 := Try.isAgg3
  z3 := Try.sizeOf3
  v3 := Try.zeroValue3
  t4 := Try.underlying4
  a4 := Try.isAgg4
  z4 := Try.sizeOf4
  v4 := Try.zeroValue4
  t9 := Try.underlying9
  a9 := Try.isAgg9
  z9 := Try.sizeOf9
  v9 := Try.zeroValue9
  t20 := Try.underlying20
  a20 := Try.isAgg20
  z20 := Try.sizeOf20
  v20 := Try.zeroValue20
  t22 := Try.underlying23
  a22 := Try.isAgg23
  z22 := Try.sizeOf23
  v22 := Try.zeroValue23 }
end Go.Proofs
namespace Go.Proofs.Ytlmfieeemkahfaa
open Go.RowKit Go.Lib
structure RowE where
  l : List SeD
  a : Option Addr
  cap : Nat
structure RowsAt (w : World) (a : Option Addr) (l : List RowE) : Prop where
  cell : ∀ j (h : j < l.length), ∃ b off, a = some ⟨b, off, none⟩ ∧ b < w.heap.size ∧ w.cell? ⟨b, off + j, none⟩ = some (.slice l[j].a l[j].l.length l[j].cap)
  row : ∀ j (h : j < l.length), SecsAt w l[j].a l[j].l
end Go.Proofs.Ytlmfieeemkahfaa
namespace Go.Proofs.Ytlmfieeemkahfaa
open Go.RowKit Go.Lib

def GrowPost (n : Nat) (w : World) (e : Ending) (w' : World) : Prop := ∃ cap, n ≤ cap ∧ e = .returned (.slice (some ⟨w.heap.size, 0, none⟩) 0 cap) ∧ w'.ownsRow w.heap.size 73 2 (.slice (some ⟨w.heap.size, 0, none⟩) 0 cap) 0 [] ∧ Below w.heap.size w w'
theorem owns_none (w w1 : World) (cs : Array Value) (e : TypeId) (size cap : Nat) (hs : w1.heap.size = w.heap.size) (h : cs.size = cap * size) (hm : cap ≤ maxLen) : (w1.alloc (.cells cs e)).ownsRow w.heap.size e size (.slice (some ⟨w.heap.size, 0, none⟩) 0 cap) 0 [] := by
  refine ⟨by simp, .inr ⟨w.heap.size, cap, cs, rfl, Nat.le_refl _, ?_, Nat.zero_le _, hm, h, by simp⟩⟩
  unfold World.alloc
  simp [← hs]
theorem growSec_nil (n : Nat) (w : World) (h0 : 0 < n) (hn : n ≤ 2000000) : Calls Try.prog 53 #[.slice none 0 0, .int .i64 n] w (GrowPost n w) := by
  obtain ⟨i0, hq0, hz0, hz1, hz2⟩ := info_parts Try.infoSec
  have h := Any8.slices_Grow_grow Try.growSec i0 _ hq0 hz0 (by rw [hz1]; decide) none 0 0 n [] w (Nat.le_refl _) (by omega) (by rw [hz2]; omega) (by omega) (by simp) (fun _ => rfl) (fun a ha => by cases ha)
  refine Calls.mono h ?_
  rintro e w' ⟨he, rfl⟩
  have hcap := grownCap_ge w (0 + n) 0 (Try.growSec_ren.t 25)
  have hmax := grownCap_le_maxLen w (0 + n) 0 (Try.growSec_ren.t 25) (by simp only [maxLen]; omega)
  have hsz : ∀ (z : Array Value) (k : Nat), z.size = 2 → (Builtin.zeroCells z k).size = k * 2 := fun z k hz => by rw [size_zeroCells, hz]
  refine ⟨_, by omega, he, owns_none w w.drew _ _ 2 _ rfl ?_ hmax, ((Below.refl _ _).drew).alloc (Nat.le_refl _) _⟩
  simp only [Array.size_append]
  rw [hsz _ _ (by rfl), hsz _ _ (by rfl)]
  generalize grownCap w (0 + n) 0 (Try.growSec_ren.t 25) = G at *
  simp
  omega
end Go.Proofs.Ytlmfieeemkahfaa
/- slices.Concat at rows of ops. -/
namespace Go.Proofs.Ytlmfieeemkahfaa
open Go.RowKit Go.Lib

/-- what the first k rows hold -/
def catR (rs : List RowE) (k : Nat) : List SeD := (rs.take k).flatMap RowE.l
theorem catR_succ {rs : List RowE} {k : Nat} (h : k < rs.length) : catR rs (k + 1) = catR rs k ++ rs[k].l := by
  unfold catR
  rw [List.take_succ_eq_append_getElem h, List.flatMap_append, List.flatMap_cons, List.flatMap_nil, List.append_nil]
theorem catR_len {rs : List RowE} {k : Nat} (h : k ≤ rs.length) : (catR rs k).length ≤ (catR rs rs.length).length := by
  obtain ⟨d, hd⟩ : ∃ d, rs.length = k + d := ⟨rs.length - k, by omega⟩
  unfold catR
  rw [List.take_length]
  conv => rhs; rw [← List.take_append_drop k rs]
  rw [List.flatMap_append, List.length_append]
  omega
theorem run_none {P : Program} {w : World} (base : Nat) (t ty e : TypeId) (i : TypeInfo) (size c : Nat) (ht : P.underlying t = some (.slice e)) (hi : P.info? e = some i)
    (v : Value) (n : Nat) (xs : List Value) (hown : w.ownsRow base e size v n xs) :
    (Builtin.append_ #[t, t] ty #[v, .slice none 0 c]).run P w = .ok v w := by
  rcases hown.2 with ⟨rfl, rfl⟩ | ⟨g, cap, cur, rfl, _, _, hnc, _⟩
  · simp [Builtin.append_, run_underlying ht, Go.sizeOf, typeInfo, hi, Builtin.lenOf, Builtin.firstCells]
  · simp [Builtin.append_, run_underlying ht, Go.sizeOf, typeInfo, hi, Builtin.lenOf, Builtin.firstCells, hnc, storeCells]
theorem wpList_none {P : Program} {w : World} {ops : Array Oper} {rest : List Oper} {o : Oper} {a : Act} {Q : Exit → Act → World → Prop} (hgd : o.guard = none) (s x : Operand) (t : TypeId)
    (ho : o.op = .call { callee := .builtin .append, args := #[s, x], argTypes := #[t, t] })
    (base : Nat) (e : TypeId) (i : TypeInfo) (size c : Nat) (ht : P.underlying t = some (.slice e)) (hi : P.info? e = some i)
    (v : Value) (n : Nat) (xs : List Value) (hs : a.eval s = v) (hown : w.ownsRow base e size v n xs) (hx : a.eval x = .slice none 0 c)
    (h : wpList P ops Q rest (a.put o.dst v) w) : wpList P ops Q (o :: rest) a w := by
  refine wpList_plain hgd fun K hK => ?_
  have hrun := run_none (P := P) (w := w) base t o.type e i size c ht hi v n xs hown
  unfold Oper.wp
  simp [execOp, ho, resolve, invoke, builtin, hs, hx, hrun, Result.andThen]
  exact hK _ _ h
def ConcatPost (rs : List RowE) (w : World) (e : Ending) (w' : World) : Prop := ∃ v, e = .returned v ∧ w'.ownsRow w.heap.size 73 2 v (catR rs rs.length).length (scs (catR rs rs.length)) ∧ Below w.heap.size w w'

set_option maxRecDepth 100000 in
set_option maxHeartbeats 4000000 in
theorem Concat_any (a : Option Addr) (cap : Nat) (rs : List RowE) (w : World) (h : RowsAt w a rs) (hp : 0 < (catR rs rs.length).length) (hb : (catR rs rs.length).length ≤ 2000000) (hr : rs.length ≤ 1000000) :
    Calls Try.prog 43 #[.slice a rs.length cap] w (ConcatPost rs w) := by
  obtain ⟨i0, hq0, hz0, hz1, hz2⟩ := info_parts Try.infoSec
  have HH := Lib.hid h
  have HS := Lib.hid (fun k (hk : k < rs.length) => catR_succ hk)
  have HLE := Lib.hid (fun k (hk : k ≤ rs.length) => Nat.le_trans (catR_len hk) hb)
  have HP := Lib.hid hp
  obtain ⟨n, hn⟩ : ∃ n, rs.length = n := ⟨_, rfl⟩
  have HN := Lib.hid hn
  have HGR := Lib.hid (fun wx => growSec_nil (catR rs n).length wx (by rw [← hn]; exact hp) (by rw [← hn]; exact hb))
  unfold GrowPost at HGR
  rw [hn] at hr HLE ⊢
  clear h hp hb hn
  go_enter Try.func43, Try.ntmps43
  go_wp2_with fail
  go_loopw [3, 11] (fun s2 s3 wr => ∃ k : Nat, s3 = .int .i64 k ∧ k ≤ n ∧ s2 = .int .i64 (catR rs k).length ∧ w = wr) (fun _ s3 _ => n - (RowKit.intOf s3).toNat)
  case atStart => exact ⟨0, rfl, Nat.zero_le _, rfl, rfl⟩
  case round =>
    obtain ⟨k, rfl, hk, rfl, rfl⟩ := hrel
    by_cases hlt : k < n
    · have hkl : k < rs.length := by rw [HN.out]; exact hlt
      obtain ⟨b, off, rfl, hbb, hc⟩ := HH.out.cell k hkl
      have hz := HS.out k hkl
      have hl1 := HLE.out (k + 1) (by omega)
      rw [hz, List.length_append] at hl1
      have HZ := Lib.hid (congrArg List.length hz)
      rw [List.length_append] at HZ
      clear hz
      have HL0 := Lib.hid (HLE.out k hk)
      generalize rs[k] = r at *
      generalize (catR rs k).length = m at *
      obtain ⟨q, hq⟩ : ∃ q, r.l.length = q := ⟨_, rfl⟩
      rw [hq] at hc hl1 HZ
      go_wp2_with fail
      go_roundw
      case rel => exact ⟨k + 1, by go_num, by omega, by rw [HZ.out]; go_num, by first | rfl | trivial⟩
      case measure => simp [RowKit.intOf] <;> omega
    · have hkn : k = n := by omega
      subst hkn
      have HL0 := HLE.out k (Nat.le_refl _)
      generalize hm : (catR rs k).length = m at *
      have HM := Lib.hid hm
      clear hm
      go_wp2_with (first | (go_at_call 53; refine (HGR.out _).mono ?_; rintro x5 w5 ⟨c5, hc5, rfl, how5, hb5⟩; have HOW5 := Lib.hid how5; have HB5 := Lib.hid hb5; clear how5 hb5) | fail)
      have HOWN : RowKit.Hid (w5.ownsRow w.heap.size 73 2 (.slice (some ⟨w.heap.size, 0, none⟩) 0 c5) (catR rs 0).length (scs (catR rs 0))) := HOW5
      clear hc5
      go_loopw [6, 27] (fun s6 s27 wz => ∃ i : Nat, s27 = .int .i64 i ∧ i ≤ k ∧ wz.ownsRow w.heap.size 73 2 s6 (catR rs i).length (scs (catR rs i)) ∧ Below w.heap.size w wz) (fun _ s27 _ => k - (RowKit.intOf s27).toNat)
      case atStart => exact ⟨0, rfl, Nat.zero_le _, HOWN.out, HB5.out⟩
      case round =>
        obtain ⟨i, rfl, hi, how, hbz⟩ := hrel
        have HO := Lib.hid how
        have HB := Lib.hid hbz
        by_cases hik : i < k
        · have hil : i < rs.length := by rw [HN.out]; exact hik
          obtain ⟨b, off, rfl, hbb, hc0⟩ := HH.out.cell i hil
          have hc := (HB.out.cell (p := ⟨b, off + i, none⟩) hbb).trans hc0
          have hrow := HH.out.row i hil
          have hz := HS.out i hil
          have hl1 := HLE.out (i + 1) (by omega)
          have HCAT := Lib.hid hz
          rw [hz, List.length_append] at hl1
          clear hz hc0 how
          have HR := Lib.hid (hrow.below HB.out)
          clear hrow
          generalize rs[i] = r at *
          obtain ⟨l, ra, rc⟩ := r
          simp only at hc hl1 HCAT HR
          obtain ⟨q, hq⟩ : ∃ q, l.length = q := ⟨_, rfl⟩
          have HQ := Lib.hid hq
          have HLN : RowKit.Hid ((scs l).length = q * 2) := Lib.hid (by rw [scs_length, hq, Nat.mul_comm])
          rw [hq] at hc hl1
          have HGE := Lib.hid (fun c (h : u6.ownBlock = some c) => (HO.out.lt c h).1)
          have HM1 := Lib.hid (show (catR rs i).length + q ≤ maxLen from by simp only [maxLen]; omega)
          have HM2 := Lib.hid (show ((catR rs i).length + q) * 24 ≤ 140737488355328 from by omega)
          have HSZ := Lib.hid HB.out.size
          cases ra with
          | none =>
            have hl0 := secs_none HR.out
            subst hl0
            have hq0' : q = 0 := by rw [← hq]; rfl
            subst hq0'
            have HO9 : RowKit.Hid (wr.ownsRow w.heap.size 73 2 u6 (catR rs (i + 1)).length (scs (catR rs (i + 1)))) := Lib.hid (by rw [HCAT.out, List.append_nil]; exact HO.out)
            clear hbz hq hl1
            go_wp2_with (first
              | (at_builtin; refine wpList_none rfl _ _ 23 rfl w.heap.size 73 i0 2 rc Try.underlying23 hq0 _ (catR rs i).length _ rfl HO.out rfl ?_)
              | fail)
            go_roundw
            case rel => exact ⟨i + 1, by go_num, by omega, HO9.out, HB.out⟩
            case measure => simp [RowKit.intOf] <;> omega
          | some ad =>
            clear hbz hq hl1
            go_wp2_with (first
              | (at_builtin; refine wpList_append_own_at _ rfl _ _ 23 rfl w.heap.size 73 i0 (.agg #[.int .i64 0, .string ⟨#[]⟩]) 2 24 Try.underlying23 hq0 hz0 hz1 hz2 rfl (by decide) _ (catR rs i).length _ rfl HO.out ad q rc (scs l) rfl HLN.out (secs_news HR.out) (scs_one l) HM1.out HM2.out HSZ.out ?_; intro v8 w8 hown8 hgrow8 _ _; have HB8 := Lib.hid (HB.out.grown hgrow8 HSZ.out HGE.out); have HO8 := Lib.hid hown8; clear hown8 hgrow8)
              | fail)
            go_roundw
            case rel => exact ⟨i + 1, by go_num, by omega, by rw [HCAT.out, List.length_append, HQ.out, scs_append]; exact HO8.out, HB8.out⟩
            case measure => simp [RowKit.intOf] <;> omega
        · have hin : i = k := by omega
          subst hin
          clear how hbz
          go_wp2_with fail
          go_ret
          exact ⟨_, rfl, by rw [HN.out]; exact HO.out, HB.out⟩
end Go.Proofs.Ytlmfieeemkahfaa
/- Clone, strings.Repeat, Zeros, slices.Repeat -/
namespace Go.Proofs.Ytlmfieeemkahfaa
open Go.RowKit Go.Lib

theorem owns_new0 (w : World) (t : TypeId) : (w.alloc (.cells #[] t)).ownsRow w.heap.size t 1 (.slice (some ⟨w.heap.size, 0, none⟩) 0 0) 0 [] :=
  ⟨by simp, .inr ⟨w.heap.size, 0, #[], rfl, Nat.le_refl _, new_heap w #[] t, Nat.zero_le _, Nat.zero_le _, by simp, by simp⟩⟩
set_option maxRecDepth 100000 in
set_option maxHeartbeats 1000000 in
theorem Clone_any (ad : Addr) (n c : Nat) (l : List ByteArray) (w : World) (h : StrsAt w (some ad) l) (hn : l.length = n) (hl : n ≤ 1000000) : Calls Try.prog 44 #[.slice (some ad) n c] w fun e w' => ∃ v, e = .returned v ∧ OwnS w.heap.size w' v l ∧ Below w.heap.size w w' := by
  obtain ⟨i0, hi, hz0, hz1, hz2⟩ := info_parts Try.infoStr
  have HO := Lib.hid (owns_new0 w 9)
  have HN := Lib.hid (show ∀ j u, (svs l)[j]? = some u → (w.alloc (.cells #[] 9)).cell? (ad.add j) = some u from strs_news (h.below (below_al w (.cells #[] 9))))
  have HLN : RowKit.Hid ((svs l).length = n * 1) := Lib.hid (by rw [svs_length, hn, Nat.mul_one])
  have HON := Lib.hid (show ∀ u ∈ svs l, u.oneCell' = true from fun u hu => by obtain ⟨x, _, rfl⟩ := List.mem_map.1 hu; rfl)
  have HSZ := Lib.hid (strs_sz h)
  have HLE := Lib.hid h.len
  have HQ := Lib.hid hn
  have HB0 := Lib.hid (below_al w (.cells #[] 9))
  have c2 : 0 + n ≤ maxLen := by unfold maxLen; omega
  have c3 : (0 + n) * 16 ≤ 140737488355328 := by omega
  have heq : (binOp .eql 22 (.slice (some ad) n c) (.slice none 0 0)).run Try.prog w = .ok (.bool false) w := Lib.run_eql_slice_nil w _ _ (some ad) n c 0 0 Try.underlying22
  clear h hn
  go_enter Try.func44, Try.ntmps44
  go_wp2_with (first
    | (at_builtin; refine wpList_append_own_at _ rfl _ _ 22 rfl w.heap.size 9 i0 (.string ⟨#[]⟩) 1 16 Try.underlying22 hi hz0 hz1 hz2 rfl (by decide) _ 0 [] rfl HO.out ad n c (svs l) rfl HLN.out HN.out HON.out c2 c3 (by simp) ?_; intro v8 w8 hown8 hgrow8 _ _; have HB8 := Lib.hid (HB0.out.grown hgrow8 (by simp) (own_ge HO.out)); have HO8 := Lib.hid hown8; clear hown8 hgrow8)
    | fail)
  go_ret
  exact ⟨_, rfl, ⟨by rw [HQ.out]; have h9 := HO8.out; rw [Nat.zero_add, List.nil_append] at h9; exact h9, HSZ.out, HLE.out⟩, HB8.out⟩

/-- bytes that are 0 -/
def zerS (n : Nat) : ByteArray := ⟨(List.replicate n (0 : UInt8)).toArray⟩
theorem zerS_size (n : Nat) : (zerS n).size = n := by show (List.replicate n (0 : UInt8)).toArray.size = n; rw [List.size_toArray, List.length_replicate]
theorem Try.srepX : Builder.Extra Try.prog Try.srep_ren := { sizeBuilder := by kernel_rfl, liesBuilder := by kernel_rfl, t5 := Try.underlying5, a5 := Try.isAgg5, z5 := Try.sizeOf5, v5 := Try.zeroValue5, infoByte := by kernel_rfl, cellsByte := by kernel_rfl, sizeByte := by kernel_rfl, neB5 := by decide }
theorem zeros_rep : ∀ n, Lib.repeatL [(0 : UInt8)] n = List.replicate n 0
  | 0 => rfl
  | n + 1 => by show [(0 : UInt8)] ++ Lib.repeatL [(0 : UInt8)] n = _; rw [zeros_rep n]; rfl
theorem sRepeat_any (w : World) : Calls Try.prog 50 #[.string ⟨#[0]⟩, .int .i64 32] w fun e w' => e = .returned (.string (zerS 32)) ∧ Below w.heap.size w w' := by
  have h := Go.Proofs.Any.strings_Repeat Try.srep Try.srepX ⟨#[0]⟩ 32 w (by decide) (by decide)
  refine Calls.mono h ?_
  rintro e w' ⟨rfl, hb⟩
  refine ⟨?_, hb⟩
  have h9 : Lib.repeatL (⟨#[(0 : UInt8)]⟩ : ByteArray).data.toList 32 = List.replicate 32 0 := zeros_rep 32
  rw [h9]
  rfl
theorem blank_any (w : World) : Calls Try.prog 27 #[] w fun e w' => e = .returned (.string (zerS 32)) ∧ Below w.heap.size w w' := by
  have H := Lib.hid (fun wx => sRepeat_any wx)
  generalize zerS 32 = Z at *
  go_enter Try.func27, Try.ntmps27
  go_wp2_with (first | (go_at_call 50; refine (H.out _).mono ?_; rintro e w2 ⟨rfl, hb⟩) | fail)
  go_ret
  exact ⟨rfl, hb⟩
def u8w (b : UInt8) : Value := .int .u8 b.toNat
theorem made_zero (n : Nat) : (madeCells #[Value.int .u8 0] n).toList = (List.replicate n (0 : UInt8)).map u8w := by
  apply List.ext_getElem
  · simp [madeCells]
  · intro i h1 h2
    simp [madeCells, u8w, Nat.mod_one]
theorem conv_owned {P : Program} (w : World) (src dst e : TypeId) (base g k cap : Nat) (l : List UInt8) (hs : P.underlying src = some (.slice e)) (he : P.underlying e = some (.int .u8)) (hd : P.underlying dst = some .string)
    (h : w.ownsRow base e 1 (.slice (some ⟨g, 0, none⟩) k cap) k (l.map u8w)) :
    (convert src dst (.slice (some ⟨g, 0, none⟩) k cap)).run P w = .ok (.string ⟨l.toArray⟩) w := by
  have hl : l.length = k := by have := h.1; simpa using this
  subst hl
  refine run_convert_bytes_back w src dst e ⟨g, 0, none⟩ cap l hs he hd ?_
  intro j hj
  have := h.cellAt j (by omega)
  rw [Addr.add_lit, Nat.zero_add, this]
  simp [hj, u8w]
theorem Try.infoByte14 : (Try.prog.info? 5).map (fun i => (i.zero, i.size, i.bytes)) = some (some (.int .u8 0), 1, 1) := by kernel_rfl
set_option maxRecDepth 100000 in
theorem Zeros_any (n : Nat) (w : World) (hn : n ≤ 100000) : Calls Try.prog 51 #[.int .i64 n] w fun e w' => e = .returned (.string (zerS n)) ∧ Below w.heap.size w w' := by
  obtain ⟨i5, hi5, hz50, hz51, hz52⟩ := info_parts Try.infoByte14
  have hb0 : i5.bytes * n ≤ 281474976710656 := by rw [hz52]; omega
  have hb1 : n ≤ maxLen := by unfold maxLen; omega
  have HB0 := Lib.hid hb0
  clear hb0
  go_enter Try.func51, Try.ntmps51
  go_wp2_with (first | (at_make; refine wpList_make_full _ rfl _ _ 46 rfl w.heap.size 5 i5 (.int .u8 0) 1 Try.underlying46 hi5 hz50 hz51 _ _ _ _ n rfl rfl rfl rfl HB0.out hb1 (Nat.le_refl _) ?_) | fail)
  intro w2 hown hgrow
  have hb2 : Below w.heap.size w w2 := (Below.refl _ _).grown hgrow (Nat.le_refl _) (fun k hk => by cases hk)
  rw [made_zero] at hown
  have hcv := conv_owned (P := Try.prog) w2 46 9 5 w.heap.size w.heap.size n n _ Try.underlying46 Try.underlying5 Try.underlying9 hown
  rw [show (⟨(List.replicate n (0 : UInt8)).toArray⟩ : ByteArray) = zerS n from rfl] at hcv
  have HB2 := Lib.hid hb2
  clear hown hgrow hb2
  go_wp2
  go_ret
  exact ⟨rfl, HB2.out⟩
theorem Blank_any (w : World) : Calls Try.prog 30 #[] w fun e w' => e = .returned (.string (zerS 32)) ∧ Below w.heap.size w w' := by
  have H := Lib.hid (fun wx => Zeros_any 32 wx (by decide))
  generalize zerS 32 = Z at *
  go_enter Try.func30, Try.ntmps30
  go_wp2_with (first | (go_at_call 51; refine (H.out _).mono ?_; rintro e w2 ⟨rfl, hb⟩) | fail)
  go_ret
  exact ⟨rfl, hb⟩
end Go.Proofs.Ytlmfieeemkahfaa
