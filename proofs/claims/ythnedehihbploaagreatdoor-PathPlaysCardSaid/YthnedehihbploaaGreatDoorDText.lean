/- doc.isEven, name, countsNext -/
import Derived.Test.YthnedehihbploaaGreatDoorDPure
import Derived.Test.YthnedehihbploaaGreatDoorTAhead
import Derived.Deep.DeepCutAuto
import Derived.Deep.CutBlock
import Derived.Deep.RegionLaw
import Derived.IntWalk
import Derived.Test.YthnedehihbploaaGreatDoorPComp
import Derived.Lib.SlKept
import Derived.Lib.QuietBelow
import Derived.Test.YthnedehihbploaaGreatDoorTCheck
import Derived.Test.YthnedehihbploaaGreatDoorRGo
import Derived.Test.YthnedehihbploaaGreatDoorRBase
import Derived.Laws.IdiomStrings
import Derived.Laws.Runes
import Derived.Shelf.Strings.BuilderK
import Derived.Shelf.Strings.BuilderRune
import Derived.Test.YthnedehihbploaaGreatDoorProg
namespace Go.Proofs
open Go.Shelf
def Tryz.lays169_ren : Go.Shelf.Ren := ⟨fun | 169 => 40 | n => n, fun | 0 => 0 | 3 => 3 | 5 => 5 | 9 => 9 | 37 => 76 | 70 => 75 | 72 => 78 | 127 => 124 | n => n, fun | n => n⟩
theorem Tryz.lays169 : Go.Proofs.Lays.n169 Tryz.prog Tryz.lays169_ren := {
  mixed := by kernel_rfl
  f169 := Tryz.func40.trans (congrArg some (by kernel_rfl))
  t0 := Tryz.underlying0
  a0 := Tryz.isAgg0
  z0 := Tryz.sizeOf0
  v0 := Tryz.zeroValue0
  t3 := Tryz.underlying3
  a3 := Tryz.isAgg3
  z3 := Tryz.sizeOf3
  v3 := Tryz.zeroValue3
  t9 := Tryz.underlying9
  a9 := Tryz.isAgg9
  z9 := Tryz.sizeOf9
  v9 := Tryz.zeroValue9
  t37 := Tryz.underlying76
  a37 := Tryz.isAgg76
  z37 := Tryz.sizeOf76
  v37 := Tryz.zeroValue76
  t70 := Tryz.underlying75
  a70 := Tryz.isAgg75
  z70 := Tryz.sizeOf75
  v70 := Tryz.zeroValue75
  t72 := Tryz.underlying78
  a72 := Tryz.isAgg78
  z72 := Tryz.sizeOf78
  v72 := Tryz.zeroValue78
  t127 := Tryz.underlying124
  a127 := Tryz.isAgg124
  z127 := Tryz.sizeOf124
  v127 := Tryz.zeroValue124 }
theorem Tryz.Builder_Extra_169 : Builder.Extra Tryz.prog Tryz.lays169_ren := {
  sizeBuilder := by kernel_rfl
  liesBuilder := by kernel_rfl
  t5 := Tryz.underlying5
  a5 := Tryz.isAgg5
  z5 := Tryz.sizeOf5
  v5 := Tryz.zeroValue5
  infoByte := by kernel_rfl
  cellsByte := by kernel_rfl
  sizeByte := by kernel_rfl
  neB5 := by decide }
def Tryz.lays168_ren : Go.Shelf.Ren := ⟨fun | 168 => 39 | 240 => 77 | 242 => 78 | 276 => 102 | 278 => 103 | n => n, fun | 0 => 0 | 3 => 3 | 4 => 4 | 5 => 5 | 9 => 9 | 20 => 20 | 21 => 21 | 37 => 76 | 46 => 148 | 51 => 144 | 70 => 75 | 72 => 78 | 75 => 80 | 80 => 83 | 164 => 142 | n => n, fun | n => n⟩
theorem Tryz.lays168 : Go.Proofs.Lays.n168 Tryz.prog Tryz.lays168_ren := {
  mixed := by kernel_rfl
  f168 := Tryz.func39.trans (congrArg some (by kernel_rfl))
  f240 := Tryz.func77.trans (congrArg some (by kernel_rfl))
  f242 := Tryz.func78.trans (congrArg some (by kernel_rfl))
  f276 := Tryz.func102.trans (congrArg some (by kernel_rfl))
  f278 := Tryz.func103.trans (congrArg some (by kernel_rfl))
  t0 := Tryz.underlying0
  a0 := Tryz.isAgg0
  z0 := Tryz.sizeOf0
  v0 := Tryz.zeroValue0
  t3 := Tryz.underlying3
  a3 := Tryz.isAgg3
  z3 := Tryz.sizeOf3
  v3 := Tryz.zeroValue3
  t4 := Tryz.underlying4
  a4 := Tryz.isAgg4
  z4 := Tryz.sizeOf4
  v4 := Tryz.zeroValue4
  t5 := Tryz.underlying5
  a5 := Tryz.isAgg5
  z5 := Tryz.sizeOf5
  v5 := Tryz.zeroValue5
  t9 := Tryz.underlying9
  a9 := Tryz.isAgg9
  z9 := Tryz.sizeOf9
  v9 := Tryz.zeroValue9
  t20 := Tryz.underlying20
  a20 := Tryz.isAgg20
  z20 := Tryz.sizeOf20
  v20 := Tryz.zeroValue20
  t21 := Tryz.underlying21
  a21 := Tryz.isAgg21
  z21 := Tryz.sizeOf21
  v21 := Tryz.zeroValue21
  t37 := Tryz.underlying76
  a37 := Tryz.isAgg76
  z37 := Tryz.sizeOf76
  v37 := Tryz.zeroValue76
  t46 := Tryz.underlying148
  a46 := Tryz.isAgg148
  z46 := Tryz.sizeOf148
  v46 := Tryz.zeroValue148
  t51 := Tryz.underlying144
  a51 := Tryz.isAgg144
  z51 := Tryz.sizeOf144
  v51 := Tryz.zeroValue144
  t70 := Tryz.underlying75
  a70 := Tryz.isAgg75
  z70 := Tryz.sizeOf75
  v70 := Tryz.zeroValue75
  t72 := Tryz.underlying78
  a72 := Tryz.isAgg78
  z72 := Tryz.sizeOf78
  v72 := Tryz.zeroValue78
  t75 := Tryz.underlying80
  a75 := Tryz.isAgg80
  z75 := Tryz.sizeOf80
  v75 := Tryz.zeroValue80
  t164 := Tryz.underlying142
  a164 := Tryz.isAgg142
  z164 := Tryz.sizeOf142
  v164 := Tryz.zeroValue142 }
theorem Tryz.Builder_Extra_168 : Builder.Extra Tryz.prog Tryz.lays168_ren := {
  sizeBuilder := by kernel_rfl
  liesBuilder := by kernel_rfl
  t5 := Tryz.underlying5
  a5 := Tryz.isAgg5
  z5 := Tryz.sizeOf5
  v5 := Tryz.zeroValue5
  infoByte := by kernel_rfl
  cellsByte := by kernel_rfl
  sizeByte := by kernel_rfl
  neB5 := by decide }
end Go.Proofs
namespace Go.Proofs.YthnedehihbploaaGreatDoor
open Go.RowKit Go.Lib

theorem dName_any (s q : Int) (w : World) : Calls Tryz.prog 75 #[.int .i64 s, .int .i64 q] w fun x w' => x = .returned (.agg #[.int .i64 s, .int .i64 q, .int .i64 0]) ∧ Below w.heap.size w w' := by
  go_enter Tryz.func75, Tryz.ntmps75
  go_wp2
  refine bodyPost_ret (v := .agg #[.int .i64 s, .int .i64 q, .int .i64 0]) (by simp [results, Tryz.results75, go_sem]) rfl ⟨rfl, ?_⟩
  exact (Below.refl _ _).alloc (Nat.le_refl _) _
theorem dEven_any (n : Nat) (w : World) (hn : n ≤ 1000) : Calls Tryz.prog 74 #[.int .i64 n] w (BoB (decide (n % 2 = 0)) w) := by
  have h1 : ((n : Int)).tmod 2 = ((n % 2 : Nat) : Int) := by
    rw [Int.tmod_eq_emod_of_nonneg (by omega)]
    rfl
  have h2 : wrap64 ((n % 2 : Nat) : Int) = ((n % 2 : Nat) : Int) := IntWalk.wrap64_in _ ⟨by omega, by omega⟩
  have h3 : decide (n % 2 = 0) = decide (((n % 2 : Nat) : Int) = 0) := by rw [decide_eq_decide]; omega
  rw [h3]
  go_enter Tryz.func74, Tryz.ntmps74
  go_wp2
  go_ret
  refine ⟨ret_bool ?_, Below.refl _ _⟩
  first | rfl | (rw [h1]; rfl) | (rw [h1, h2]; rfl)
/-- countsNext: is o's generation the next one? -/
theorem dNext_any (b n : Nat) (l : List OpD) (o : OpD) (a : Option Addr) (cap : Nat) (w : World) (hm : MapE w b n (ctV l)) (hc : CInv l) (hf : (⟨o.of, o.num, 0⟩ : El).fit) :
    Calls Tryz.prog 100 #[.map (some b), o.v a cap] w (BoB (decide (o.gen = (ct l o.of o.num : Int))) w) := by
  have HBX := Lib.hid (BoxO.new w o a cap)
  have HB0 : RowKit.Hid (Below w.heap.size w (w.alloc (o.obj a cap))) := Lib.hid ((Below.refl _ _).alloc (Nat.le_refl _) _)
  have hl0 := (hm.kept (((Below.refl w.heap.size w).alloc (Nat.le_refl _) (o.obj a cap)).block b hm.lt))
  have hlk := fun d os => (by
    have h := ((hl0.kept ((below_regrown _ d os).block b hl0.lt))).look (t := 114) (z := .int .i64 0) Tryz.underlying114 (by kernel_rfl) ⟨o.of, o.num, 0⟩ hf false
    simp only [Bool.false_eq_true, if_false] at h
    rw [ctV_get hc] at h
    exact h : (Instr.lookup 114 (.map (some b)) (.agg #[.int .i64 o.of, .int .i64 o.num, .int .i64 0]) false).run Tryz.prog (Sort.grow (redrawn (w.alloc (o.obj a cap)) d) os) = .ok (.int .i64 (ct l o.of o.num)) (Sort.grow (redrawn (w.alloc (o.obj a cap)) d) os))
  clear hm hc hf hl0
  obtain ⟨site, seq, kind, ⟨es, eq, ei⟩, text, gone, of, num, gen⟩ := o
  unfold OpD.v
  unfold OpD.obj at HBX HB0 hlk
  simp only at HBX HB0 hlk ⊢
  have x8 := cell_regrown HBX.out.c8
  have x9 := cell_regrown HBX.out.c9
  have xa := cell_regrown HBX.out.ca
  have xl := HBX.out.lt
  simp only at x8 x9 xa
  generalize ct l of num = c at *
  go_enter Tryz.func100, Tryz.ntmps100
  go_wp2_with fail
  generalize (w.alloc (.cells #[.int .i64 site, .int .i64 seq, .int .i64 kind, .int .i64 es, .int .i64 eq, .int .i64 ei, .string text, .slice a gone.length cap, .int .i64 of, .int .i64 num, .int .i64 gen] 39)) = wu at *
  refine wp_region_quiet_below (by kernel_rfl) (by kernel_rfl) ?_
  repeat (first | go_big_quiet_step (exact Calls.regrown_of (dName_any _ _ _)) | quiet_step (exact Calls.regrown_of (dName_any _ _ _)))
  refine wpQuiet_nil ?_
  intro _ hw'
  obtain ⟨⟨dq, osq⟩, hw''⟩ := hw'
  subst hw''
  have HB2 := Lib.hid (HB0.out.trans ((below_regrown wu dq osq).mono HB0.out.size))
  clear x8 x9 xa hlk
  generalize Sort.grow (redrawn wu dq) osq = wv at *
  go_wp2
  go_ret
  exact ⟨ret_bool (by first | rfl | simp), HB2.out⟩
end Go.Proofs.YthnedehihbploaaGreatDoor
/- slices.IndexFunc, slices.DeleteFunc at elements, with doc.Visible's closure, which tells p -/
namespace Go.Proofs.YthnedehihbploaaGreatDoor
open Go.RowKit Go.Lib

/-- nothing has turned but block r -/
def KpB (r : Nat) (w w' : World) : Prop := w.heap.size ≤ w'.heap.size ∧ ∀ k, k < w.heap.size → k ≠ r → w'.heap[k]? = w.heap[k]?
theorem KpB.refl (r : Nat) (w : World) : KpB r w w := ⟨Nat.le_refl _, fun _ _ _ => rfl⟩
theorem KpB.below {r : Nat} {w w1 w2 : World} (h : KpB r w w1) (hb : Below w1.heap.size w1 w2) : KpB r w w2 :=
  ⟨Nat.le_trans h.1 hb.size, fun k hk hne => (hb.block k (Nat.lt_of_lt_of_le hk h.1)).trans (h.2 k hk hne)⟩
theorem KpB.set {r : Nat} {w w1 : World} (h : KpB r w w1) (o : Nat) (v : Value) : KpB r w (w1.setCell ⟨r, o, none⟩ v) :=
  ⟨by simpa using h.1, fun k hk hne => (set_other hne).trans (h.2 k hk hne)⟩
theorem KpB.drewN {r : Nat} {w w1 : World} (h : KpB r w w1) (n : Nat) : KpB r w (w1.drewN n) := h.below ((Same.drewN w1 n).below _)
/-- the closure tells p, whatever block r holds -/
def PredOk (r : Nat) (c1 c2 : Value) (p : El → Bool) (w : World) : Prop := ∀ (e : El) (wx : World), KpB r w wx → e.fit → Calls Tryz.prog 73 #[e.v, c1, c2] wx (BoB (p e) wx)
/-- where the first is that p tells; -1: none -/
def ixP (p : El → Bool) (l : List El) : Int := if l.any p then (l.findIdx p : Nat) else -1
theorem ixP_at {p : El → Bool} {l : List El} {k : Nat} (hk : k < l.length) (hp : p l[k] = true) (hall : ∀ j (hj : j < l.length), j < k → p l[j] = false) : ixP p l = k := by
  unfold ixP
  rw [if_pos (List.any_eq_true.2 ⟨_, List.getElem_mem hk, hp⟩)]
  have h3 : l.findIdx p = k := by
    rw [List.findIdx_eq hk]
    exact ⟨hp, fun j hj => hall j (by omega) hj⟩
  rw [h3]
theorem ixP_no {p : El → Bool} {l : List El} (hall : ∀ j (hj : j < l.length), p l[j] = false) : ixP p l = -1 := by
  unfold ixP
  rw [if_neg]
  intro h
  obtain ⟨x, hx, hp⟩ := List.any_eq_true.1 h
  obtain ⟨j, hj, rfl⟩ := List.getElem_of_mem hx
  rw [hall j hj] at hp
  cases hp
theorem ixP_cases (p : El → Bool) (l : List El) : (ixP p l = -1 ∧ ∀ j (hj : j < l.length), p l[j] = false) ∨ ∃ k, ∃ hk : k < l.length, ixP p l = (k : Int) ∧ p l[k] = true ∧ ∀ j (hj : j < l.length), j < k → p l[j] = false := by
  by_cases h : l.any p = true
  · right
    have hlt : l.findIdx p < l.length := List.findIdx_lt_length_of_exists (by simpa using h)
    refine ⟨l.findIdx p, hlt, by unfold ixP; rw [if_pos h], List.findIdx_getElem (w := hlt), fun j hj hjk => ?_⟩
    have := List.not_of_lt_findIdx hjk
    simpa using this
  · left
    refine ⟨by unfold ixP; rw [if_neg h], fun j hj => ?_⟩
    cases hp : p l[j] with
    | false => rfl
    | true => exact absurd (List.any_eq_true.2 ⟨_, List.getElem_mem hj, hp⟩) h

set_option maxRecDepth 100000 in
set_option maxHeartbeats 2000000 in
theorem IdxF_any (r : Nat) (c1 c2 : Value) (p : El → Bool) (a : Option Addr) (cap : Nat) (l : List El) (w : World) (hp : PredOk r c1 c2 p w) (h : ElemsAt w a l) (hfit : ∀ e ∈ l, e.fit) (hl : l.length ≤ 1000000) :
    Calls Tryz.prog 101 #[.slice a l.length cap, .func (.func 73) #[] #[c1, c2]] w (IntB (ixP p l) w) := by
  have HP := Lib.hid hp
  have HH := Lib.hid h
  have HF := Lib.hid hfit
  obtain ⟨n, hn⟩ : ∃ n, l.length = n := ⟨_, rfl⟩
  have HN := Lib.hid hn
  have HA := Lib.hid (fun k (hk : k < l.length) hp hall => ixP_at (l := l) (p := p) (k := k) hk hp hall)
  have HNO := Lib.hid (fun hall => ixP_no (l := l) (p := p) hall)
  rw [hn] at hl ⊢
  clear h hn hp hfit
  generalize ixP p l = z at *
  go_enter Tryz.func101, Tryz.ntmps101
  go_wp2_with fail
  go_loopw [8] (fun s8 wr => ∃ k : Nat, s8 = .int .i64 k ∧ k ≤ n ∧ Below w.heap.size w wr ∧ ∀ j (hj : j < l.length), j < k → p l[j] = false) (fun s8 _ => n - (RowKit.intOf s8).toNat)
  case atStart => exact ⟨0, rfl, Nat.zero_le _, Below.refl _ _, fun j _ hj => absurd hj (by omega)⟩
  case round =>
    obtain ⟨k, rfl, hk, hb, hall⟩ := hrel
    have HALL := Lib.hid hall
    have HB := Lib.hid hb
    clear hall
    by_cases hlt : k < n
    · have hkl : k < l.length := by rw [HN.out]; exact hlt
      obtain ⟨b, off, rfl, hbb, x0, x1, x2⟩ := (HH.out.below hb).cell k hkl
      have hfk := HF.out l[k] (List.getElem_mem hkl)
      have HG := Lib.hid (show ∃ h : k < l.length, l[k] = l[k] from ⟨hkl, rfl⟩)
      have HC := Lib.hid (fun (wx : World) (hx : Below w.heap.size w wx) => HP.out l[k] wx ((KpB.refl r w).below hx) hfk)
      have HK0 := Lib.hid (fun hp => HA.out k hkl hp HALL.out)
      have HK1 := Lib.hid (show p l[k] = false → ∀ j (hj : j < l.length), j < k + 1 → p l[j] = false from fun h j hj hjk => by
        by_cases hjk2 : j = k
        · subst hjk2; exact h
        · exact HALL.out j hj (by omega))
      clear hb hfk
      generalize l[k] = x at *
      obtain ⟨xs, xq, xi⟩ := x
      simp only at x0 x1 x2
      unfold El.v at HC
      simp only at HC
      cases hpx : p ⟨xs, xq, xi⟩
      · rw [hpx] at HC
        go_wp2_with (first | (go_at_call 73; refine (HC.out wr HB.out).mono ?_; rintro x1 w1 ⟨rfl, hb1⟩; have HB1 := Lib.hid (HB.out.trans (hb1.mono HB.out.size)); clear hb1) | fail)
        go_roundw
        case rel => exact ⟨k + 1, by go_num, by omega, HB1.out, HK1.out hpx⟩
        case measure => simp [RowKit.intOf]; omega
      · rw [hpx] at HC
        have HZ := Lib.hid (HK0.out hpx)
        go_wp2_with (first | (go_at_call 73; refine (HC.out wr HB.out).mono ?_; rintro x1 w1 ⟨rfl, hb1⟩; have HB1 := Lib.hid (HB.out.trans (hb1.mono HB.out.size)); clear hb1) | fail)
        go_ret
        exact ⟨ret_int HZ.out.symm, HB1.out⟩
    · have HZ := Lib.hid (HNO.out (fun j hj => HALL.out j hj (by rw [HN.out] at hj; omega)))
      clear hb
      go_wp2
      go_ret
      exact ⟨ret_int HZ.out.symm, HB.out⟩

/-- what DeleteFunc leaves -/
def DelPost (base B : Nat) (w0 : World) (l : List El) (e : Ending) (w' : World) : Prop :=
  ∃ a cap, e = .returned (.slice a l.length cap) ∧ w'.ownsRow base 37 3 (.slice a l.length cap) l.length (ecs l) ∧ Below B w0 w'
theorem kept_low {kp : Nat → Bool} {d dk : Array El} {k : Nat} (h : KeptInv kp d d.size k dk) : dk.toList.take k = keptUpTo kp d d.size := by
  have hk := h.lt
  have hs := h.size
  apply List.ext_getElem?
  intro j
  by_cases c : j < k
  · rw [h.low j c, List.getElem?_take_of_lt c, getElem!_pos dk j (by omega)]
    simp
  · rw [List.getElem?_eq_none (by rw [List.length_take]; omega), List.getElem?_eq_none (by rw [h.len]; omega)]

set_option maxRecDepth 100000 in
set_option maxHeartbeats 2000000 in
theorem Del_any (c1 c2 : Value) (p : El → Bool) (a : Option Addr) (cap base B : Nat) (l : List El) (w0 w : World) (hown : w.ownsRow base 37 3 (.slice a l.length cap) l.length (ecs l)) (hB : B ≤ base) (hb : Below B w0 w) (hl : l.length ≤ 1000000) (hzB : B ≤ w.heap.size)
    (hp : ∀ r, (a = some ⟨r, 0, none⟩ ∨ (a = none ∧ r = w.heap.size)) → PredOk r c1 c2 p w) (hfit : ∀ e ∈ l, e.fit) (he : ElemsAt w a l) :
    Calls Tryz.prog 76 #[.slice a l.length cap, .func (.func 73) #[] #[c1, c2]] w (DelPost base B w0 (l.filter (fun x => !p x))) := by
  rcases hown.2 with ⟨hv, h0⟩ | ⟨g, cap2, cur, hv, hg0, hh, hcc, _⟩
  · -- nothing there
    have hln : l = [] := List.eq_nil_of_length_eq_zero h0
    subst hln
    simp only [Value.slice.injEq, List.length_nil, true_and] at hv
    obtain ⟨rfl, rfl⟩ := hv
    have HIX := Lib.hid (IdxF_any w.heap.size c1 c2 p none 0 [] w (hp _ (.inr ⟨rfl, rfl⟩)) he hfit hl)
    have HB := Lib.hid hb
    have HO := Lib.hid hown
    clear hp he hfit hown hb
    go_enter Tryz.func76, Tryz.ntmps76
    go_wp2_with (first | (go_at_call 101; refine HIX.out.mono ?_; rintro x1 w1 ⟨rfl, hb1⟩; have HB1 := Lib.hid hb1; clear hb1) | fail)
    go_ret
    exact ⟨none, 0, rfl, World.ownsRow_nil _ _ _ _, HB.out.trans (HB1.out.mono hzB)⟩
  obtain ⟨rfl, rfl⟩ : a = some ⟨g, 0, none⟩ ∧ cap = cap2 := by
    simp only [Value.slice.injEq] at hv
    exact ⟨hv.1, hv.2.2⟩
  clear hv hh
  have hgB : B ≤ g := Nat.le_trans hB hg0
  have hzw : B ≤ w.heap.size := Nat.le_trans hgB (Nat.le_of_lt (hown.lt g rfl).2)
  have HIX := Lib.hid (IdxF_any g c1 c2 p (some ⟨g, 0, none⟩) cap l w (hp g (.inl rfl)) he hfit hl)
  have hcs := ixP_cases p l
  have HP := Lib.hid (hp g (.inl rfl))
  have HF := Lib.hid hfit
  obtain ⟨n, hn⟩ : ∃ n, l.length = n := ⟨_, rfl⟩
  have HN := Lib.hid hn
  rw [hn] at hown hcc hl HIX ⊢
  have HO := Lib.hid hown
  have HB := Lib.hid hb
  clear hn hown hb hp hfit he
  generalize ixP p l = z at *
  go_enter Tryz.func76, Tryz.ntmps76
  rcases hcs with ⟨rfl, hall⟩ | ⟨k0, hk0, rfl, hpk, hall⟩
  · have HP2 : RowKit.Hid (l.filter (fun x => !p x) = l) := Lib.hid (List.filter_eq_self.2 (fun x hx => by
      obtain ⟨j, hj, rfl⟩ := List.getElem_of_mem hx
      rw [hall j hj]; rfl))
    clear hall
    rw [HP2.out]
    go_wp2_with (first | (go_at_call 101; refine HIX.out.mono ?_; rintro x1 w1 ⟨rfl, hb1⟩; have HB1 := Lib.hid hb1; clear hb1) | fail)
    go_ret
    exact ⟨some ⟨g, 0, none⟩, cap, (show Ending.returned (.slice (some ⟨g, 0, none⟩) n cap) = _ from by rw [HN.out]), by rw [HN.out]; exact owns_belE HO.out HB1.out, HB.out.trans (HB1.out.mono hzw)⟩
  · obtain ⟨kp, HK⟩ : ∃ kp : Nat → Bool, RowKit.Hid (kp = fun j => !p l.toArray[j]!) := ⟨_, Lib.hid rfl⟩
    have HFL : RowKit.Hid (l.filter (fun x => !p x) = keptUpTo kp l.toArray l.toArray.size) := Lib.hid (by rw [HK.out]; exact (keptUpTo_filter (fun x => !p x) l.toArray).symm)
    have hlt0 : k0 < n := by rw [← HN.out]; exact hk0
    have HST : RowKit.Hid (KeptInv kp l.toArray (k0 + 1) k0 l.toArray) := Lib.hid (KeptInv.start (fun j hj => by rw [HK.out]; show (!p l.toArray[j]!) = true; rw [getElem!_pos l.toArray j (by simp; omega)]; simp [hall j (by omega) hj]) (by rw [HK.out]; show (!p l.toArray[k0]!) = false; rw [getElem!_pos l.toArray k0 (by simp; omega)]; simp [hpk]))
    clear hall hpk hk0
    have hne1 : ((k0 : Int) == -1) = false := beq_eq_false_iff_ne.2 (by omega)
    go_wp2_with (first | (go_at_call 101; refine HIX.out.mono ?_; rintro x1 w1 ⟨rfl, hb1⟩; have HB1 := Lib.hid hb1; clear hb1) | fail)
    clear HIX
    go_loopw [5, 6] (fun s5 s6 wr => ∃ (i j : Nat) (dk : Array El), s5 = .int .i64 i ∧ s6 = .int .i64 j ∧ j ≤ n ∧ wr.ownsRow base 37 3 (.slice (some ⟨g, 0, none⟩) n cap) n (ecs dk.toList) ∧ Below B w0 wr ∧ KpB g w wr ∧ KeptInv kp l.toArray j i dk) (fun _ s6 _ => n - (RowKit.intOf s6).toNat)
    case atStart => exact ⟨k0, k0 + 1, l.toArray, rfl, by go_num, by omega, by simpa using owns_belE HO.out HB1.out, HB.out.trans (HB1.out.mono hzw), (KpB.refl g w).below HB1.out, HST.out⟩
    case round =>
      clear HST HB1 HO
      obtain ⟨i, j, dk, rfl, rfl, hj, hox, hbx, hkp, hI⟩ := hrel
      have HI := Lib.hid hI
      have HKP := Lib.hid hkp
      have HBX := Lib.hid hbx
      have hik := hI.lt
      have hds : dk.size = n := by rw [hI.size]; simp [HN.out]
      have HOX := Lib.hid hox
      have hdl : dk.toList.length = n := by simpa using hds
      have hzr : B ≤ wr.heap.size := Nat.le_trans hzw hkp.1
      clear hI hkp hbx
      by_cases hlt2 : j < n
      · obtain ⟨x0, x1, x2⟩ := row_cells hox hdl j hlt2
        obtain ⟨z0, z1, z2⟩ := row_cells hox hdl i (by omega)
        have e0 : dk.toList[j]! = l.toArray[j]! := by rw [← HI.out.high j (by omega), tl_get]
        have e1 : l.toArray[j]! = l[j]'(by rw [HN.out]; exact hlt2) := by rw [getElem!_pos l.toArray j (by simp [HN.out]; exact hlt2)]; simp
        rw [e0] at x0 x1 x2
        have f0 := hox.frozenAt (i * 3)
        have f1 := hox.frozenAt (i * 3 + 1)
        have f2 := hox.frozenAt (i * 3 + 2)
        have hgl := (hox.lt g rfl).2
        have hfx : (l.toArray[j]!).fit := by rw [e1]; exact HF.out _ (List.getElem_mem _)
        have HKX := Lib.hid (show kp j = !p l.toArray[j]! from by rw [HK.out])
        have hkeep := HI.out.keep (m := j) (by simp [HN.out]; exact hlt2)
        have hskip := HI.out.skip (m := j)
        have HSET := Lib.hid (ecs_set dk.toList i l.toArray[j]! (by omega))
        have HBE := Lib.hid (BoxE.new wr l.toArray[j]!)
        have hcal := HP.out l.toArray[j]! (wr.alloc (.cells #[.int .i64 (l.toArray[j]!).s, .int .i64 (l.toArray[j]!).q, .int .i64 (l.toArray[j]!).i] 37)) (HKP.out.below ((Below.refl _ _).alloc (Nat.le_refl _) _)) hfx
        have HKEEP := Lib.hid hkeep
        have HSKIP := Lib.hid hskip
        generalize l.toArray[j]! = x at *
        generalize dk.toList[i]! = zz at *
        clear hox e0 e1 hfx hkeep hskip
        obtain ⟨xs, xq, xi⟩ := x
        unfold El.v at hcal
        simp only at x0 x1 x2 HSET HBE hcal
        have HCAL := Lib.hid hcal
        clear hcal
        cases hpx : p ⟨xs, xq, xi⟩
        · rw [hpx] at HCAL HKX
          go_wp2_with (first
            | (go_at_call 73; refine HCAL.out.mono ?_; rintro x1 w5 ⟨rfl, hb5⟩; have hb6 := ((Below.refl wr.heap.size wr).alloc (Nat.le_refl _) (.cells #[.int .i64 xs, .int .i64 xq, .int .i64 xi] 37)).trans (hb5.mono (by simp)); have HB6 := Lib.hid hb6; have HO6 := Lib.hid (owns_belE HOX.out hb6); obtain ⟨z3, z4, z5⟩ := row_cells HO6.out hdl i (by omega); have f3 := HO6.out.frozenAt (i * 3); have f4 := HO6.out.frozenAt (i * 3 + 1); have f5 := HO6.out.frozenAt (i * 3 + 2); have hbe := HBE.out.step hb5; have y0 := hbe.c0; have y1 := hbe.c1; have y2 := hbe.c2; have hyl := hbe.lt; have hgl6 := (HO6.out.lt g rfl).2; simp only at y0 y1 y2; clear hb5 hb6 hbe z0 z1 z2 f0 f1 f2 x0 x1 x2)
            | fail)
          go_roundw
          case rel =>
            refine ⟨i + 1, j + 1, dk.setIfInBounds i ⟨xs, xq, xi⟩, by go_num, by go_num, by omega, ?_, (((HBX.out.trans (HB6.out.mono hzr)).setCell hgB _).setCell hgB _).setCell hgB _, (((HKP.out.below HB6.out).set _ _).set _ _).set _ _, HKEEP.out HKX.out⟩
            have := (((HO6.out.stored (i * 3) (.int .i64 xs)).1.stored (i * 3 + 1) (.int .i64 xq)).1.stored (i * 3 + 2) (.int .i64 xi)).1
            rw [HSET.out] at this
            rw [Array.toList_setIfInBounds]
            exact this
          case measure => simp [RowKit.intOf]; omega
        · rw [hpx] at HCAL HKX
          go_wp2_with (first
            | (go_at_call 73; refine HCAL.out.mono ?_; rintro x1 w5 ⟨rfl, hb5⟩; have hb6 := ((Below.refl wr.heap.size wr).alloc (Nat.le_refl _) (.cells #[.int .i64 xs, .int .i64 xq, .int .i64 xi] 37)).trans (hb5.mono (by simp)); have HB6 := Lib.hid hb6; clear hb5 hb6)
            | fail)
          go_roundw
          case rel => exact ⟨i, j + 1, dk, rfl, by go_num, by omega, owns_belE HOX.out HB6.out, HBX.out.trans (HB6.out.mono hzr), HKP.out.below HB6.out, HSKIP.out HKX.out⟩
          case measure => simp [RowKit.intOf]; omega
      · have h9 : j = n := by omega
        have hclr : ∀ ty, (Builtin.clear_ #[23] ty #[.slice (some ⟨g, i * 3, none⟩) (n - i) (cap - i)]).run Tryz.prog wr = .ok (.tuple #[]) (wr.setCells g (i * 3) (List.replicate ((n - i) * 3) (.int .i64 0))) :=
          fun ty => clear_el Tryz.prog wr _ _ ty Tryz.underlying23 Tryz.zeroValue37 g (i * 3) _ _ (by omega) (fun t ht => by rw [hox.cellAt (i * 3 + t) (by omega), List.getElem?_eq_getElem (by rw [ecs_length]; omega)]; rfl) (fun t _ => hox.frozenAt _)
        have HPX : RowKit.Hid (DelPost base B w0 (l.filter (fun x => !p x)) (.returned (.slice (some ⟨g, 0, none⟩) i cap)) (wr.setCells g (i * 3) (List.replicate ((n - i) * 3) (.int .i64 0)))) := Lib.hid (by
          have hI := HI.out
          have hsz : l.toArray.size = n := by simp [HN.out]
          rw [h9, ← hsz] at hI
          have hlow := kept_low hI
          have hdd : l.filter (fun x => !p x) = dk.toList.take i := by rw [HFL.out, hlow]
          have hddl : (l.filter (fun x => !p x)).length = i := by rw [hdd, List.length_take]; omega
          obtain ⟨xs', o1, o2⟩ := owns_setCells (List.replicate ((n - i) * 3) (Value.int .i64 0)) (i * 3) wr _ hox
          have o3 := owns_cut o1 (k := i) (by omega)
          refine ⟨some ⟨g, 0, none⟩, cap, by rw [hddl], ?_, below_setCells hgB _ _ _ HBX.out⟩
          rw [hddl, hdd, ← ecs_take]
          have hx : xs'.take (i * 3) = (ecs dk.toList).take (i * 3) := by
            apply List.ext_getElem?
            intro j
            by_cases c : j < i * 3
            · rw [List.getElem?_take_of_lt c, List.getElem?_take_of_lt c, o2 j c]
            · rw [List.getElem?_eq_none (by rw [List.length_take]; omega), List.getElem?_eq_none (by rw [List.length_take]; omega)]
          rw [← hx]
          exact o3)
        clear hox
        go_wp2
        go_ret
        exact HPX.out
end Go.Proofs.YthnedehihbploaaGreatDoor
/- doc.counts: of each edit how many toggles count -/
namespace Go.Proofs.YthnedehihbploaaGreatDoor
open Go.RowKit Go.Lib

/-- m[k] ahead of a store, where k is there: the map stays -/
theorem MapE.entry_same {w : World} {b n : Nat} {V : El → Option Value} (h : MapE w b n V) {t e : TypeId} (ht : Tryz.prog.underlying t = some (.map 37 e)) (k : El) (hk : k.fit) {v : Value} (hv : V k = some v) :
    ∃ r w1, (Instr.mapEntry t (.map (some b)) k.v).run Tryz.prog w = .ok r w1 ∧ MapE w1 b n V := by
  obtain ⟨es, clock, hb, F, hs, h1, h2⟩ := h.has
  obtain ⟨kl, hkey⟩ := key_of k hk
  obtain ⟨hf, x, hx, hxk⟩ := h2 k v hv
  rcases Tryz.keyLaw.find w hkey es.toList F.keys with ⟨_, hno⟩ | ⟨j, e0, g1, g2, g3⟩
  · exact absurd hxk (hno x hx)
  · have hj : es[j]? = some e0 := by simpa using g2
    have hsame : es.modify j (fun e => { e with key := k.v }) = es := by
      apply Array.ext'
      rw [Array.toList_modify, Go.ChangeMaps.modify_eq_set _ _ _ _ g2]
      have : ({ e0 with key := k.v } : MapEntry) = e0 := by rw [← g3]
      rw [this]
      exact WideElems.set_self _ _ _ g2
    refine ⟨.tuple #[e0.val, .int .i64 e0.born], ChangeMaps.setBlock w b (.map es clock), ?_, h.kept (by rw [ChangeMaps.heap_setBlock_same hb, hb])⟩
    simp [Instr.mapEntry, run_underlying ht, MapKept.run_getObj_map hb, Tryz.keyLaw.check w false hkey, g1, hj, g3, Tryz.keyLaw.stays w hkey, hsame, MapKept.run_setObj_map _ hb, Result.andThen, ChangeMaps.setBlock, goInt]
def CntsPost (l : List OpD) (w : World) (e : Ending) (w' : World) : Prop := ∃ b, e = .returned (.map (some b)) ∧ w.heap.size ≤ b ∧ MapE w' b l.length (ctV l) ∧ Below w.heap.size w w'
/-- behind k ops -/
structure CSt (l : List OpR) (base : Nat) (w wr : World) (k : Nat) : Prop where
  map : MapE wr base k (ctV ((OpR.os l).take k))
  below : Below base w wr
theorem CSt.step {l : List OpR} {base : Nat} {w wr wu : World} {k : Nat} (h : CSt l base w wr k) (hb : Below wr.heap.size wr wu) (hz : base ≤ wr.heap.size) : CSt l base w wu k :=
  ⟨h.map.kept (hb.block base h.map.lt), h.below.trans (hb.mono hz)⟩
theorem os_take_snoc {l : List OpR} {k : Nat} (hk : k < l.length) : (OpR.os l).take (k + 1) = (OpR.os l).take k ++ [l[k].o] := by
  rw [List.take_succ_eq_append_getElem (by rw [olen]; exact hk)]
  simp [OpR.os]
theorem tk_at {l : List OpR} (h : okRow (OpR.os l)) {k : Nat} (hk : k < l.length) : tk ((OpR.os l).take k) l[k].o = true := by
  have := h k (by rw [olen]; exact hk)
  simpa [OpR.os] using this
/-- an edit comes in -/
theorem CSt.edit {l : List OpR} {base : Nat} {w wr : World} {k : Nat} (h : CSt l base w wr k) (hr : okRow (OpR.os l)) (hk : k < l.length) (hkd : l[k].o.kind = 1) (hl : l.length ≤ 1000) :
    ∃ w', (Instr.mapUpdate 114 (.map (some base)) (.agg #[.int .i64 l[k].o.site, .int .i64 l[k].o.seq, .int .i64 0]) (.int .i64 0)).run Tryz.prog wr = .ok () w' ∧ CSt l base w w' (k + 1) := by
  have ht := tk_at hr hk
  have hn := okOp_name (tk_goes ht).1
  obtain ⟨w', h1, h2, h3⟩ := h.map.store (t := 114) Tryz.underlying114 (by simp only [maxLen]; omega) ⟨l[k].o.site, l[k].o.seq, 0⟩ (by unfold El.fit in64; simp only; omega) (.int .i64 0)
  refine ⟨w', h1, ⟨?_, h.below.grown h3 (Nat.le_of_lt h.map.lt) (fun j hj => by cases hj; exact Nat.le_refl _)⟩⟩
  rw [os_take_snoc hk, ctV_edit (row_ct hr k (by rw [olen]; omega)) ht hkd]
  exact h2
/-- a toggle counts -/
theorem CSt.toggle {l : List OpR} {base : Nat} {w wr : World} {k : Nat} (h : CSt l base w wr k) (hr : okRow (OpR.os l)) (hk : k < l.length) (hkd : l[k].o.kind = 2) (hg : l[k].o.gen = (ct ((OpR.os l).take k) l[k].o.of l[k].o.num : Int)) (hl : l.length ≤ 1000) :
    ∃ st w1, (Instr.mapEntry 114 (.map (some base)) (.agg #[.int .i64 l[k].o.of, .int .i64 l[k].o.num, .int .i64 0])).run Tryz.prog wr = .ok (.tuple #[.int .i64 (ct ((OpR.os l).take k) l[k].o.of l[k].o.num), .int .i64 st]) w1 ∧ MapE w1 base k (ctV ((OpR.os l).take k)) ∧
      ∃ w3, (Instr.entryStore 114 (.map (some base)) (.int .i64 st) (.int .i64 (IntKind.i64.wrap ((ct ((OpR.os l).take k) l[k].o.of l[k].o.num : Int) + 1)))).run Tryz.prog w1 = .ok () w3 ∧ CSt l base w w3 (k + 1) := by
  have ht := tk_at hr hk
  have hf : (⟨l[k].o.of, l[k].o.num, 0⟩ : El).fit := needs_fit (tk_goes ht).1 _ (by unfold needs; rw [if_pos hkd]; simp)
  have hcle := ct_le ((OpR.os l).take k) l[k].o.of l[k].o.num
  rw [List.length_take, olen] at hcle
  have hcw : IntKind.i64.wrap ((ct ((OpR.os l).take k) l[k].o.of l[k].o.num : Int) + 1) = ((ct ((OpR.os l).take k) l[k].o.of l[k].o.num + 1 : Nat) : Int) := by rw [IntWalk.i64_in _ (by omega)]; omega
  rw [hcw]
  obtain ⟨st, w1, h1, h2, h3, h4, h5⟩ := h.map.entry (t := 114) (z := .int .i64 0) Tryz.underlying114 (fun u => by kernel_rfl) (by simp only [maxLen]; omega) ⟨l[k].o.of, l[k].o.num, 0⟩ hf
  rw [ctV_get (row_ct hr k (by rw [olen]; omega))] at h1
  obtain ⟨w3, g1, g2, g3⟩ := h5 w1 (.int .i64 ((ct ((OpR.os l).take k) l[k].o.of l[k].o.num + 1 : Nat) : Int)) rfl
  have hth : ∃ v, ctV ((OpR.os l).take k) ⟨l[k].o.of, l[k].o.num, 0⟩ = some v := by
    have := ctV_is ((OpR.os l).take k) ⟨l[k].o.of, l[k].o.num, 0⟩
    rw [toggle_has ht hkd] at this
    exact Option.isSome_iff_exists.1 this
  obtain ⟨vv, hvv⟩ := hth
  obtain ⟨r, w1b, e1, e2⟩ := h.map.entry_same (t := 114) Tryz.underlying114 ⟨l[k].o.of, l[k].o.num, 0⟩ hf hvv
  rw [h1] at e1
  simp only [Result.ok.injEq] at e1
  rw [← e1.2] at e2
  refine ⟨st, w1, h1, e2, w3, g1, ⟨?_, ?_⟩⟩
  · rw [os_take_snoc hk, ctV_toggle (row_ct hr k (by rw [olen]; omega)) ht hkd hg]
    exact g2
  · exact (h.below.grown h2 (Nat.le_of_lt h.map.lt) (fun j hj => by cases hj; exact Nat.le_refl _)).grown g3 (by omega) (fun j hj => by cases hj; exact Nat.le_refl _)
/-- a toggle does not count -/
theorem CSt.idle {l : List OpR} {base : Nat} {w wr : World} {k : Nat} (h : CSt l base w wr k) (hk : k < l.length) (hkd : l[k].o.kind = 2) (hg : ¬ l[k].o.gen = (ct ((OpR.os l).take k) l[k].o.of l[k].o.num : Int)) : CSt l base w wr (k + 1) := by
  refine ⟨?_, h.below⟩
  rw [os_take_snoc hk, ctV_idle hkd hg]
  exact h.map.mono (by omega)

set_option maxRecDepth 100000 in
set_option maxHeartbeats 4000000 in
theorem dCounts_any (a : Option Addr) (cap : Nat) (l : List OpR) (w : World) (h : OpsAt w a l) (hr : okRow (OpR.os l)) (hl : l.length ≤ 1000) :
    Calls Tryz.prog 71 #[.slice a l.length cap] w (CntsPost (OpR.os l) w) := by
  have HH := Lib.hid h
  have HR := Lib.hid hr
  have HL := Lib.hid hl
  have HST := Lib.hid (show CSt l w.heap.size w (w.alloc (.map #[] 0)) 0 from ⟨by rw [List.take_zero, ctV_nil]; exact MapE.made w, (Below.refl _ _).alloc (Nat.le_refl _) _⟩)
  clear h hr
  obtain ⟨n, hn⟩ : ∃ n, l.length = n := ⟨_, rfl⟩
  have HN := Lib.hid hn
  rw [hn] at hl ⊢
  clear hn
  have hmk : (Instr.makeMap 114 none).run Tryz.prog w = .ok (.map (some w.heap.size)) (w.alloc (.map #[] 0)) := run_makeMap _ w
  generalize hbase : w.heap.size = base at *
  have HBS := Lib.hid hbase
  go_enter Tryz.func71, Tryz.ntmps71
  go_wp2_with fail
  clear hbase hmk
  go_loopw [9] (fun s9 wr => ∃ k : Nat, s9 = .int .i64 k ∧ k ≤ n ∧ CSt l base w wr k ∧ base < wr.heap.size) (fun s9 _ => n - (RowKit.intOf s9).toNat)
  case atStart => exact ⟨0, rfl, Nat.zero_le _, HST.out, HST.out.map.lt⟩
  case round =>
    clear HST
    obtain ⟨k, rfl, hk, hst, hbs⟩ := hrel
    have HS := Lib.hid hst
    by_cases hlt : k < n
    · have hkl : k < l.length := by rw [HN.out]; exact hlt
      have hbw : Below w.heap.size w wr := by rw [HBS.out]; exact hst.below
      obtain ⟨b, off, rfl, hbb, c0, c1, c2, c3, c4, c5, c6, c7, c8, c9, ca⟩ := (HH.out.below hbw).cells k hkl
      have HED := Lib.hid (fun (wx : World) (hx : CSt l base w wx k) hkd => hx.edit HR.out hkl hkd HL.out)
      have HTG := Lib.hid (fun (wx : World) (hx : CSt l base w wx k) hkd hg => hx.toggle HR.out hkl hkd hg HL.out)
      have HID := Lib.hid (fun (wx : World) (hx : CSt l base w wx k) hkd hg => hx.idle hkl hkd hg)
      have hokk := (tk_goes (tk_at HR.out hkl)).1
      have hkind := okOp_kind hokk
      have HNX := Lib.hid (fun (wx : World) (hx : CSt l base w wx k) => dNext_any base k ((OpR.os l).take k) l[k].o l[k].a l[k].cap wx hx.map (row_ct HR.out k (by rw [olen]; omega)))
      have HFT := Lib.hid (show l[k].o.kind = 2 → (⟨l[k].o.of, l[k].o.num, 0⟩ : El).fit from fun hkd => needs_fit hokk _ (by unfold needs; rw [if_pos hkd]; simp))
      have HBX := Lib.hid (BoxO.new wr l[k].o l[k].a l[k].cap)
      have HSB := Lib.hid (fun (x : Obj) => hst.step ((Below.refl wr.heap.size wr).alloc (Nat.le_refl _) x) (Nat.le_of_lt hbs))
      have hcle0 := fun s q => Nat.le_trans (ct_le ((OpR.os l).take k) s q) (by rw [List.length_take]; exact Nat.le_trans (Nat.min_le_left _ _) (Nat.le_trans hk hl))
      have HCL := Lib.hid hcle0
      have HCI := Lib.hid (row_ct HR.out k (by rw [olen]; omega))
      clear hst hokk hcle0
      generalize hlt0 : (OpR.os l).take k = lt at *
      have HLT := Lib.hid hlt0
      clear hlt0
      generalize l[k] = r at *
      clear hkl
      obtain ⟨⟨site, seq, kind, ⟨es, eq, ei⟩, text, gone, of, num, gen⟩, ra, rc⟩ := r
      unfold OpD.obj at HBX
      unfold OpD.v at HNX
      simp only at c0 c1 c2 c3 c4 c5 c6 c7 c8 c9 ca HED HTG HID hkind HNX HFT HBX
      have p0 := HBX.out.c0
      have p1 := HBX.out.c1
      have p2 := HBX.out.c2
      have pl := HBX.out.lt
      simp only at p0 p1 p2
      rcases hkind with rfl | rfl
      · clear HTG HID HNX HFT
        have HS1 := Lib.hid (HSB.out (.cells #[.int .i64 site, .int .i64 seq, .int .i64 1, .int .i64 es, .int .i64 eq, .int .i64 ei, .string text, .slice ra gone.length rc, .int .i64 of, .int .i64 num, .int .i64 gen] 39))
        have HZ1 := Lib.hid (show base ≤ (wr.alloc (.cells #[.int .i64 site, .int .i64 seq, .int .i64 1, .int .i64 es, .int .i64 eq, .int .i64 ei, .string text, .slice ra gone.length rc, .int .i64 of, .int .i64 num, .int .i64 gen] 39)).heap.size from by simp; omega)
        go_wp2_with (first
          | (go_at_call 75; (refine (dName_any _ _ _).mono ?_; rintro x12 w12 ⟨rfl, hb12⟩; have hs12 := HS1.out.step hb12 HZ1.out; obtain ⟨w13, hr13, hs13⟩ := HED.out w12 hs12 rfl; have HS13 := Lib.hid hs13; clear hb12 hs12 hs13))
          | fail)
        go_roundw
        case rel => exact ⟨k + 1, by go_num, by omega, HS13.out, HS13.out.map.lt⟩
        case measure => simp [RowKit.intOf]; omega
      · by_cases hg : gen = (ct lt of num : Int)
        · have HS1 := Lib.hid (HSB.out (.cells #[.int .i64 site, .int .i64 seq, .int .i64 2, .int .i64 es, .int .i64 eq, .int .i64 ei, .string text, .slice ra gone.length rc, .int .i64 of, .int .i64 num, .int .i64 gen] 39))
          have HZ1 := Lib.hid (show base ≤ (wr.alloc (.cells #[.int .i64 site, .int .i64 seq, .int .i64 2, .int .i64 es, .int .i64 eq, .int .i64 ei, .string text, .slice ra gone.length rc, .int .i64 of, .int .i64 num, .int .i64 gen] 39)).heap.size from by simp; omega)
          have HN1 := Lib.hid (HNX.out _ HS1.out (HFT.out rfl))
          rw [decide_eq_true hg] at HN1
          have hcle : ct lt of num ≤ 1000 := HCL.out of num
          have HLK := Lib.hid (fun (wx : World) (hx : MapE wx base k (ctV lt)) => (by
            have h := hx.look (t := 114) (z := .int .i64 0) Tryz.underlying114 (by kernel_rfl) ⟨of, num, 0⟩ (HFT.out rfl) false
            simp only [Bool.false_eq_true, if_false] at h
            rw [ctV_get HCI.out] at h
            exact h : (Instr.lookup 114 (.map (some base)) (.agg #[.int .i64 of, .int .i64 num, .int .i64 0]) false).run Tryz.prog wx = .ok (.int .i64 (ct lt of num)) wx))
          subst hg
          generalize ct lt of num = c at *
          go_upto_region 8 with (first
            | (go_at_call 100; (refine HN1.out.mono ?_; rintro x12 w12 ⟨rfl, hb12⟩; have HS12 := Lib.hid (HS1.out.step hb12 HZ1.out); have hbx := HBX.out.step hb12; have q8 := hbx.c8; have q9 := hbx.c9; have ql := hbx.lt; simp only at q8 q9; clear hb12 hbx))
            | fail)
          go_region_law (first
            | (go_simp; go_at_call 75; (refine (dName_any _ _ _).mono ?_; rintro x13 w13 ⟨rfl, hb13⟩; have hs13 := (HS12.out.step (Below.refl w12.heap.size w12).drew (Nat.le_of_lt HS12.out.map.lt)).step hb13 (Nat.le_of_lt HS12.out.map.lt); have hlk := HLK.out w13 (by rw [← HLT.out]; exact hs13.map); obtain ⟨st, w14, hr14, hm14, w15, hr15, hs15⟩ := HTG.out w13 hs13 (by first | rfl | trivial) (by first | rfl | trivial); have hlk2 := HLK.out w14 hm14; have HS15 := Lib.hid hs15; clear hm14 hb13 hs13 hs15))
            | fail)
          all_goals
            go_wp2_with fail
            go_roundw
            case rel => exact ⟨k + 1, by go_num, by omega, HS15.out, HS15.out.map.lt⟩
            case measure => simp [RowKit.intOf]; omega
        · have HS1 := Lib.hid (HSB.out (.cells #[.int .i64 site, .int .i64 seq, .int .i64 2, .int .i64 es, .int .i64 eq, .int .i64 ei, .string text, .slice ra gone.length rc, .int .i64 of, .int .i64 num, .int .i64 gen] 39))
          have HZ1 := Lib.hid (show base ≤ (wr.alloc (.cells #[.int .i64 site, .int .i64 seq, .int .i64 2, .int .i64 es, .int .i64 eq, .int .i64 ei, .string text, .slice ra gone.length rc, .int .i64 of, .int .i64 num, .int .i64 gen] 39)).heap.size from by simp; omega)
          have HN1 := Lib.hid (HNX.out _ HS1.out (HFT.out rfl))
          rw [decide_eq_false hg] at HN1
          go_wp2_with (first
            | (go_at_call 100; (refine HN1.out.mono ?_; rintro x12 w12 ⟨rfl, hb12⟩; have HS13 := Lib.hid (HID.out _ (HS1.out.step hb12 HZ1.out) rfl hg); clear hb12))
            | fail)
          go_roundw
          case rel => exact ⟨k + 1, by go_num, by omega, HS13.out, HS13.out.map.lt⟩
          case measure => simp [RowKit.intOf]; omega
    · have h0 : k = n := by omega
      have HFIN : RowKit.Hid (CntsPost (OpR.os l) w (.returned (.map (some base))) wr) := Lib.hid (by
        have hm := hst.map
        rw [List.take_of_length_le (by rw [olen, HN.out]; omega)] at hm
        exact ⟨base, rfl, by rw [HBS.out]; exact Nat.le_refl _, by rw [olen, HN.out, ← h0]; exact hm, by rw [HBS.out]; exact hst.below⟩)
      clear hst HS
      go_wp2
      go_ret
      exact HFIN.out
end Go.Proofs.YthnedehihbploaaGreatDoor
/- doc.taken: what effective ops take away -/
namespace Go.Proofs.YthnedehihbploaaGreatDoor
open Go.RowKit Go.Lib

def TaksPost (l : List OpD) (w : World) (e : Ending) (w' : World) : Prop := ∃ b, e = .returned (.map (some b)) ∧ w.heap.size ≤ b ∧ (∃ n, MapE w' b n (goV l l [])) ∧ Below w.heap.size w w'
/-- behind k ops, and g of what the next takes away -/
structure KSt (l : List OpR) (base cb cn : Nat) (w wr : World) (k m : Nat) (g : List El) : Prop where
  map : MapE wr base m (goV (OpR.os l) ((OpR.os l).take k) g)
  cnt : MapE wr cb cn (ctV (OpR.os l))
  below : Below base w wr
  lt : cb < base
theorem KSt.step {l : List OpR} {base cb cn : Nat} {w wr wu : World} {k m : Nat} {g : List El} (h : KSt l base cb cn w wr k m g) (hb : Below wr.heap.size wr wu) : KSt l base cb cn w wu k m g :=
  ⟨h.map.kept (hb.block base h.map.lt), h.cnt.kept (hb.block cb h.cnt.lt), h.below.trans (hb.mono (Nat.le_of_lt h.map.lt)), h.lt⟩
theorem KSt.put {l : List OpR} {base cb cn : Nat} {w wr : World} {k m : Nat} {g : List El} (h : KSt l base cb cn w wr k m g) (hm : m < 1000000) (e : El) (he : e.fit) :
    ∃ w', (Instr.mapUpdate 116 (.map (some base)) e.v (.agg #[])).run Tryz.prog wr = .ok () w' ∧ KSt l base cb cn w w' k (m + 1) (g ++ [e]) := by
  obtain ⟨w', h1, h2, h3⟩ := h.map.store (t := 116) Tryz.underlying116 (by simp only [maxLen]; omega) e he (.agg #[])
  refine ⟨w', h1, ⟨?_, h.cnt.kept (h3.block cb h.cnt.lt (fun hh => by have := h.lt; cases hh; omega)), h.below.grown h3 (Nat.le_of_lt h.map.lt) (fun j hj => by cases hj; exact Nat.le_refl _), h.lt⟩⟩
  rw [goV_put]
  exact h2
theorem KSt.out {l : List OpR} {base cb cn : Nat} {w wr : World} {k m : Nat} (h : KSt l base cb cn w wr k m []) (hk : k < l.length) (he : evn (OpR.os l) l[k].o.site l[k].o.seq = false) : KSt l base cb cn w wr (k + 1) m [] := by
  refine ⟨?_, h.cnt, h.below, h.lt⟩
  rw [os_take_snoc hk, goV_out _ _ _ he]
  exact h.map
theorem KSt.into {l : List OpR} {base cb cn : Nat} {w wr : World} {k m : Nat} (hk : k < l.length) (h : KSt l base cb cn w wr k m l[k].o.gone) (he : evn (OpR.os l) l[k].o.site l[k].o.seq = true) : KSt l base cb cn w wr (k + 1) m [] := by
  refine ⟨?_, h.cnt, h.below, h.lt⟩
  rw [os_take_snoc hk, goV_in _ _ _ he]
  exact h.map
theorem ok_fit {e : El} (h : e.ok = true) : e.fit := by
  by_cases hb : e.begin = true
  · rw [(begin_iff _).1 hb]; exact b0_fit
  · have := ok_parts h (by simpa using hb)
    unfold El.fit in64
    omega
set_option maxRecDepth 100000 in
set_option maxHeartbeats 4000000 in
theorem dTaken_any (a : Option Addr) (cap : Nat) (l : List OpR) (cb cn : Nat) (w : World) (h : OpsAt w a l) (hr : okRow (OpR.os l)) (hl : l.length ≤ 1000) (hc : MapE w cb cn (ctV (OpR.os l))) :
    Calls Tryz.prog 72 #[.slice a l.length cap, .map (some cb)] w (TaksPost (OpR.os l) w) := by
  have HH := Lib.hid h
  have HR := Lib.hid hr
  have HCI : RowKit.Hid (CInv (OpR.os l)) := Lib.hid (by
    have := row_ct hr (OpR.os l).length (Nat.le_refl _)
    rwa [List.take_length] at this)
  have HCL := Lib.hid (fun s q => Nat.le_trans (ct_le (OpR.os l) s q) (by rw [olen]; exact hl))
  have HST := Lib.hid (show KSt l w.heap.size cb cn w (w.alloc (.map #[] 0)) 0 0 [] from ⟨by rw [List.take_zero, goV_nil]; exact MapE.made w, hc.kept (((Below.refl w.heap.size w).alloc (Nat.le_refl _) _).block cb hc.lt), (Below.refl _ _).alloc (Nat.le_refl _) _, hc.lt⟩)
  clear h hr hc
  obtain ⟨n, hn⟩ : ∃ n, l.length = n := ⟨_, rfl⟩
  have HN := Lib.hid hn
  rw [hn] at hl ⊢
  clear hn
  have hmk : (Instr.makeMap 116 none).run Tryz.prog w = .ok (.map (some w.heap.size)) (w.alloc (.map #[] 0)) := run_makeMap _ w
  generalize hbase : w.heap.size = base at *
  have HBS := Lib.hid hbase
  go_enter Tryz.func72, Tryz.ntmps72
  go_wp2_with fail
  clear hbase hmk
  go_loopw [13] (fun s13 wr => ∃ k m : Nat, s13 = .int .i64 k ∧ k ≤ n ∧ m ≤ k * 200 ∧ KSt l base cb cn w wr k m []) (fun s13 _ => n - (RowKit.intOf s13).toNat)
  case atStart => exact ⟨0, 0, rfl, Nat.zero_le _, Nat.zero_le _, HST.out⟩
  case round =>
    clear HST
    obtain ⟨k, m, rfl, hk, hm, hst⟩ := hrel
    by_cases hlt : k < n
    · have hkl : k < l.length := by rw [HN.out]; exact hlt
      have hbw : Below w.heap.size w wr := by rw [HBS.out]; exact hst.below
      obtain ⟨b, off, rfl, hbb, c0, c1, c2, c3, c4, c5, c6, c7, c8, c9, ca⟩ := (HH.out.below hbw).cells k hkl
      have hoa := HH.out.op k hkl
      have hokk := (tk_goes (tk_at HR.out hkl)).1
      have hgo := gone_ok hokk
      have hnm := okOp_name hokk
      have HOUT := Lib.hid (fun (wx : World) (hx : KSt l base cb cn w wx k m []) he => hx.out hkl he)
      have HIN := Lib.hid (fun (wx : World) (m2 : Nat) (hx : KSt l base cb cn w wx k m2 l[k].o.gone) he => KSt.into hkl hx he)
      have hev : evn (OpR.os l) l[k].o.site l[k].o.seq = decide (ct (OpR.os l) l[k].o.site l[k].o.seq % 2 = 0) := rfl
      have hcle := HCL.out l[k].o.site l[k].o.seq
      have HBX := Lib.hid (BoxO.new wr l[k].o l[k].a l[k].cap)
      have HGA := Lib.hid hoa.gone
      have HLK := Lib.hid (fun (wx : World) (hx : MapE wx cb cn (ctV (OpR.os l))) => (by
        have h := hx.look (t := 114) (z := .int .i64 0) Tryz.underlying114 (by kernel_rfl) ⟨l[k].o.site, l[k].o.seq, 0⟩ (by unfold El.fit in64; simp only; omega) false
        simp only [Bool.false_eq_true, if_false] at h
        rw [ctV_get HCI.out] at h
        exact h : (Instr.lookup 114 (.map (some cb)) (.agg #[.int .i64 l[k].o.site, .int .i64 l[k].o.seq, .int .i64 0]) false).run Tryz.prog wx = .ok (.int .i64 (ct (OpR.os l) l[k].o.site l[k].o.seq)) wx))
      clear hokk hoa hnm
      generalize l[k] = r at *
      clear hkl
      obtain ⟨⟨site, seq, kind, ⟨es, eq, ei⟩, text, gone, of, num, gen⟩, ra, rc⟩ := r
      unfold OpD.obj at HBX
      simp only at c0 c1 c2 c3 c4 c5 c6 c7 c8 c9 ca HOUT HIN hev hcle HBX HGA HLK hgo
      have p0 := HBX.out.c0
      have p1 := HBX.out.c1
      have pl := HBX.out.lt
      simp only at p0 p1
      have HS1 := Lib.hid (hst.step ((Below.refl wr.heap.size wr).alloc (Nat.le_refl _) (.cells #[.int .i64 site, .int .i64 seq, .int .i64 kind, .int .i64 es, .int .i64 eq, .int .i64 ei, .string text, .slice ra gone.length rc, .int .i64 of, .int .i64 num, .int .i64 gen] 39)))
      have HGO := Lib.hid hgo.2
      have hg200 := hgo.1
      generalize evn (OpR.os l) site seq = ev at *
      generalize ct (OpR.os l) site seq = c at *
      clear hgo
      cases ev
      · have HEV := Lib.hid (fun wx => (by have h := dEven_any c wx hcle; rw [← hev] at h; exact h : Calls Tryz.prog 74 #[.int .i64 c] wx (BoB false wx)))
        clear hev
        go_wp2_with (first
          | (go_at_call 75; (refine (dName_any _ _ _).mono ?_; rintro x12 w12 ⟨rfl, hb12⟩; have hs12 := HS1.out.step hb12; have HS12 := Lib.hid hs12; have hlk := HLK.out w12 hs12.cnt; clear hb12 hs12))
          | (go_at_call 74; (refine (HEV.out w12).mono ?_; rintro x13 w13 ⟨rfl, hb13⟩; have HS13 := Lib.hid (HOUT.out _ (HS12.out.step hb13) (by first | rfl | trivial)); clear hb13))
          | fail)
        go_roundw
        case rel => exact ⟨k + 1, m, by go_num, by omega, by omega, HS13.out⟩
        case measure => simp [RowKit.intOf]; omega
      · have HEV := Lib.hid (fun wx => (by have h := dEven_any c wx hcle; rw [← hev] at h; exact h : Calls Tryz.prog 74 #[.int .i64 c] wx (BoB true wx)))
        clear hev
        go_wp2_with (first
          | (go_at_call 75; (refine (dName_any _ _ _).mono ?_; rintro x12 w12 ⟨rfl, hb12⟩; have hs12 := HS1.out.step hb12; have HS12 := Lib.hid hs12; have hlk := HLK.out w12 hs12.cnt; have HX2 := Lib.hid (HBX.out.step hb12); clear hb12 hs12))
          | (go_at_call 74; (refine (HEV.out w12).mono ?_; rintro x13 w13 ⟨rfl, hb13⟩; have HS13 := Lib.hid (HS12.out.step hb13); have hx3 := HX2.out.step hb13; have q7 := hx3.c7; have ql := hx3.lt; simp only at q7; clear hb13 hx3))
          | fail)
        clear p0 p1 pl c0 c1 c2 c3 c4 c5 c6 c7 c8 c9 ca
        go_loopw [29] (fun s29 wi => ∃ j : Nat, s29 = .int .i64 j ∧ j ≤ gone.length ∧ KSt l base cb cn w wi k (m + j) (gone.take j)) (fun s29 _ => gone.length - (RowKit.intOf s29).toNat)
        case atStart => exact ⟨0, rfl, Nat.zero_le _, by rw [List.take_zero]; exact HS13.out⟩
        case round =>
          clear HS13
          obtain ⟨j, rfl, hj, hin⟩ := hrel
          have hbi : Below w.heap.size w wr := by rw [HBS.out]; exact hin.below
          have HINN := Lib.hid hin
          by_cases hlt2 : j < gone.length
          · have hjl : j < gone.length := hlt2
            obtain ⟨b5, off5, rfl, hb5, x0, x1, x2⟩ := (HGA.out.below hbi).cell j hjl
            have hfx := ok_fit (HGO.out gone[j] (List.getElem_mem hjl))
            have HTK := Lib.hid (show gone.take (j + 1) = gone.take j ++ [gone[j]] from List.take_succ_eq_append_getElem hjl)
            have HBE := Lib.hid (BoxE.new wr gone[j])
            generalize gone[j] = x at *
            obtain ⟨xs, xq, xi⟩ := x
            simp only at x0 x1 x2 HBE
            have y0 := HBE.out.c0
            have y1 := HBE.out.c1
            have y2 := HBE.out.c2
            have yl := HBE.out.lt
            simp only at y0 y1 y2
            have hs1 := hin.step ((Below.refl wr.heap.size wr).alloc (Nat.le_refl _) (.cells #[.int .i64 xs, .int .i64 xq, .int .i64 xi] 37))
            obtain ⟨w14, hr14, hs14⟩ := hs1.put (by have : k * 200 ≤ 1000 * 200 := Nat.mul_le_mul_right _ (by omega); omega) ⟨xs, xq, xi⟩ hfx
            unfold El.v at hr14
            simp only at hr14
            have HS14 := Lib.hid hs14
            clear hs14 hs1 hin hbi
            go_wp2_with fail
            go_roundw
            case rel => exact ⟨j + 1, by go_num, by omega, by rw [HTK.out]; exact HS14.out⟩
            case measure => simp [RowKit.intOf]; omega
          · have h0 : j = gone.length := by omega
            have HNX := Lib.hid (HIN.out _ (m + gone.length) (by
              have := hin
              rw [h0, List.take_length] at this
              exact this) (by first | rfl | trivial))
            clear hin hbi
            go_wp2_with fail
            go_roundw
            case rel => exact ⟨k + 1, m + gone.length, by go_num, by omega, by omega, HNX.out⟩
            case measure => simp [RowKit.intOf]; omega
    · have h0 : k = n := by omega
      have HFIN : RowKit.Hid (TaksPost (OpR.os l) w (.returned (.map (some base))) wr) := Lib.hid (by
        have hm := hst.map
        rw [List.take_of_length_le (by rw [olen, HN.out]; omega)] at hm
        exact ⟨base, rfl, by rw [HBS.out]; exact Nat.le_refl _, ⟨_, hm⟩, by rw [HBS.out]; exact hst.below⟩)
      clear hst
      go_wp2
      go_ret
      exact HFIN.out
end Go.Proofs.YthnedehihbploaaGreatDoor
/- doc.Visible's closure: is an element hidden? -/
namespace Go.Proofs.YthnedehihbploaaGreatDoor
open Go.RowKit Go.Lib

/-- what the closure reads -/
structure HidIn (w : World) (gp cp gb cb gn cn : Nat) (l : List OpD) : Prop where
  pg : w.cell? ⟨gp, 0, none⟩ = some (.map (some gb))
  pc : w.cell? ⟨cp, 0, none⟩ = some (.map (some cb))
  lg : gp < w.heap.size
  lc : cp < w.heap.size
  mg : MapE w gb gn (goV l l [])
  mc : MapE w cb cn (ctV l)
theorem HidIn.kept {w w' : World} {gp cp gb cb gn cn : Nat} {l : List OpD} (h : HidIn w gp cp gb cb gn cn l) (hz : w.heap.size ≤ w'.heap.size) (hb : ∀ k, k < w.heap.size → (k = gp ∨ k = cp ∨ k = gb ∨ k = cb) → w'.heap[k]? = w.heap[k]?) : HidIn w' gp cp gb cb gn cn l :=
  ⟨by have := h.pg; unfold World.cell? at this ⊢; simp only [hb gp h.lg (.inl rfl)]; exact this, by have := h.pc; unfold World.cell? at this ⊢; simp only [hb cp h.lc (.inr (.inl rfl))]; exact this, Nat.lt_of_lt_of_le h.lg hz, Nat.lt_of_lt_of_le h.lc hz, h.mg.kept (hb gb h.mg.lt (.inr (.inr (.inl rfl)))), h.mc.kept (hb cb h.mc.lt (.inr (.inr (.inr rfl))))⟩
theorem HidIn.below {w w' : World} {gp cp gb cb gn cn : Nat} {l : List OpD} (h : HidIn w gp cp gb cb gn cn l) (hb : Below w.heap.size w w') : HidIn w' gp cp gb cb gn cn l := h.kept hb.size (fun k hk _ => hb.block k hk)
theorem HidIn.kpb {w w' : World} {gp cp gb cb gn cn r : Nat} {l : List OpD} (h : HidIn w gp cp gb cb gn cn l) (hk : KpB r w w') (hr : gp ≠ r ∧ cp ≠ r ∧ gb ≠ r ∧ cb ≠ r) : HidIn w' gp cp gb cb gn cn l :=
  h.kept hk.1 (fun k hlt he => hk.2 k hlt (by rcases he with rfl | rfl | rfl | rfl <;> first | exact hr.1 | exact hr.2.1 | exact hr.2.2.1 | exact hr.2.2.2))
set_option maxRecDepth 100000 in
set_option maxHeartbeats 4000000 in
theorem dHid_any (gp cp gb cb gn cn : Nat) (l : List OpD) (e : El) (w : World) (h : HidIn w gp cp gb cb gn cn l) (hci : CInv l) (hle : l.length ≤ 1000) (hf : e.fit) :
    Calls Tryz.prog 73 #[e.v, .pointer (some ⟨gp, 0, none⟩), .pointer (some ⟨cp, 0, none⟩)] w (BoB (!vis l e) w) := by
  have HB0 : RowKit.Hid (Below w.heap.size w (w.alloc (.cells #[.int .i64 e.s, .int .i64 e.q, .int .i64 e.i] 37))) := Lib.hid ((Below.refl _ _).alloc (Nat.le_refl _) _)
  have HBX := Lib.hid (BoxE.new w e)
  have HH := Lib.hid h
  have hcle := Nat.le_trans (ct_le l e.s e.q) hle
  have HLG := Lib.hid (fun (wx : World) (hx : HidIn wx gp cp gb cb gn cn l) => (by
    have h := hx.mg.look (t := 116) (z := .agg #[]) Tryz.underlying116 (by kernel_rfl) e hf true
    simp only [if_true] at h
    rw [goV_is, show (goV l l [] e).getD (Value.agg #[]) = .agg #[] from by unfold goV; split <;> rfl] at h
    exact h : (Instr.lookup 116 (.map (some gb)) (.agg #[.int .i64 e.s, .int .i64 e.q, .int .i64 e.i]) true).run Tryz.prog wx = .ok (.tuple #[.agg #[], .bool (goneE l l e)]) wx))
  have HLC := Lib.hid (fun (wx : World) (hx : HidIn wx gp cp gb cb gn cn l) => (by
    have h := hx.mc.look (t := 114) (z := .int .i64 0) Tryz.underlying114 (by kernel_rfl) ⟨e.s, e.q, 0⟩ (by unfold El.fit in64 at hf ⊢; simp only; omega) false
    simp only [Bool.false_eq_true, if_false] at h
    rw [ctV_get hci] at h
    exact h : (Instr.lookup 114 (.map (some cb)) (.agg #[.int .i64 e.s, .int .i64 e.q, .int .i64 0]) false).run Tryz.prog wx = .ok (.int .i64 (ct l e.s e.q)) wx))
  have hv : (!vis l e) = (goneE l l e || !decide (ct l e.s e.q % 2 = 0)) := by
    unfold vis evn
    cases goneE l l e <;> cases decide (ct l e.s e.q % 2 = 0) <;> rfl
  rw [hv]
  clear h hv hf
  obtain ⟨s, q, i⟩ := e
  unfold El.v
  simp only at HB0 HBX hcle HLG HLC ⊢
  have h1 := HH.out.below ((Below.refl w.heap.size w).alloc (Nat.le_refl _) (.cells #[.int .i64 s, .int .i64 q, .int .i64 i] 37))
  have p0 := HBX.out.c0
  have p1 := HBX.out.c1
  have p2 := HBX.out.c2
  have pl := HBX.out.lt
  have g0 := h1.pg
  have gl := h1.lg
  have hlg := HLG.out _ h1
  simp only at p0 p1 p2
  have hu := h1.below ((Below.refl _ _).alloc (Nat.le_refl _) (.cells #[] 118))
  have HU := Lib.hid hu
  have HBU := Lib.hid (HB0.out.alloc HB0.out.size (.cells #[] 118))
  have hbu := HBX.out.step ((Below.refl _ _).alloc (Nat.le_refl _) (.cells #[] 118))
  have q0 := cell_regrown hbu.c0
  have q1 := cell_regrown hbu.c1
  have qg := cell_regrown hu.pc
  have ql := hbu.lt
  have qc := hu.lc
  have hlk := fun d os => HLC.out _ (hu.below (below_regrown _ d os))
  simp only at q0 q1
  generalize ct l s q = c at *
  generalize goneE l l ⟨s, q, i⟩ = g at *
  clear h1 hu hbu
  have HEV := Lib.hid (fun wx => dEven_any c wx hcle)
  generalize decide (c % 2 = 0) = ev at *
  cases g
  · cases ev
    · go_enter Tryz.func73, Tryz.ntmps73
      go_wp2_with fail
      generalize (w.alloc (.cells #[.int .i64 s, .int .i64 q, .int .i64 i] 37)).alloc (.cells #[] 118) = wu at *
      refine wp_region_quiet_below (by kernel_rfl) (by kernel_rfl) ?_
      repeat (first | go_big_quiet_step (first | exact Calls.regrown_of (dName_any _ _ _) | exact Calls.regrown_of (HEV.out _)) | quiet_step (first | exact Calls.regrown_of (dName_any _ _ _) | exact Calls.regrown_of (HEV.out _)))
      refine wpQuiet_nil ?_
      intro _ hw'
      obtain ⟨⟨dq, osq⟩, hw''⟩ := hw'
      subst hw''
      have HB2 := Lib.hid (HBU.out.trans ((below_regrown wu dq osq).mono HBU.out.size))
      clear p0 p1 p2 hlk hlg q0 q1 qg
      generalize Sort.grow (redrawn wu dq) osq = wv at *
      go_wp2
      go_ret
      exact ⟨rfl, HB2.out⟩
    · go_enter Tryz.func73, Tryz.ntmps73
      go_wp2_with fail
      generalize (w.alloc (.cells #[.int .i64 s, .int .i64 q, .int .i64 i] 37)).alloc (.cells #[] 118) = wu at *
      refine wp_region_quiet_below (by kernel_rfl) (by kernel_rfl) ?_
      repeat (first | go_big_quiet_step (first | exact Calls.regrown_of (dName_any _ _ _) | exact Calls.regrown_of (HEV.out _)) | quiet_step (first | exact Calls.regrown_of (dName_any _ _ _) | exact Calls.regrown_of (HEV.out _)))
      refine wpQuiet_nil ?_
      intro _ hw'
      obtain ⟨⟨dq, osq⟩, hw''⟩ := hw'
      subst hw''
      have HB2 := Lib.hid (HBU.out.trans ((below_regrown wu dq osq).mono HBU.out.size))
      clear p0 p1 p2 hlk hlg q0 q1 qg
      generalize Sort.grow (redrawn wu dq) osq = wv at *
      go_wp2
      go_ret
      exact ⟨rfl, HB2.out⟩
  · go_enter Tryz.func73, Tryz.ntmps73
    go_wp2_with fail
    generalize (w.alloc (.cells #[.int .i64 s, .int .i64 q, .int .i64 i] 37)).alloc (.cells #[] 118) = wu at *
    refine wp_region_quiet_below (by kernel_rfl) (by kernel_rfl) ?_
    repeat (first | go_big_quiet_step (first | exact Calls.regrown_of (dName_any _ _ _) | exact Calls.regrown_of (HEV.out _)) | quiet_step (first | exact Calls.regrown_of (dName_any _ _ _) | exact Calls.regrown_of (HEV.out _)))
    refine wpQuiet_nil ?_
    intro _ hw'
    obtain ⟨⟨dq, osq⟩, hw''⟩ := hw'
    subst hw''
    have HB2 := Lib.hid (HBU.out.trans ((below_regrown wu dq osq).mono HBU.out.size))
    clear p0 p1 p2 hlk hlg q0 q1 qg
    generalize Sort.grow (redrawn wu dq) osq = wv at *
    go_wp2
    go_ret
    exact ⟨rfl, HB2.out⟩
end Go.Proofs.YthnedehihbploaaGreatDoor
/- doc.Visible -/
namespace Go.Proofs.YthnedehihbploaaGreatDoor
open Go.RowKit Go.Lib

def VisPost (l : List OpD) (w : World) (e : Ending) (w' : World) : Prop := ∃ v, e = .returned (.tuple #[v, .int .i64 0]) ∧ w'.ownsRow w.heap.size 37 3 v (visE l).length (ecs (visE l)) ∧ Below w.heap.size w w'
theorem dVis_bad (a : Option Addr) (cap : Nat) (l : List OpR) (w : World) (h : OpsAt w a l) (hr : ¬ rowP (OpR.os l)) : Calls Tryz.prog 37 #[.slice a l.length cap] w (OrdNo w) := by
  have HO := Lib.hid (tOrder_bad a cap l w h hr)
  clear h hr
  generalize l.length = n at *
  go_enter Tryz.func37, Tryz.ntmps37
  go_wp2_with (first | (go_at_call 70; refine HO.out.mono ?_; rintro x1 w1 ⟨rfl, hb1⟩; have HB1 := Lib.hid hb1; clear hb1) | fail)
  go_ret2
  exact ⟨rfl, HB1.out⟩
/-- all that DeleteFunc wants to know -/
theorem vis_del {L : List OpD} (hr : rowP L) (hci : CInv L) (hle : L.length ≤ 1000) {w W : World} {a : Option Addr} {c n : Nat} {gp cp gb cb gn cn : Nat} (hn : (ordE L).length = n) (hin : HidIn W gp cp gb cb gn cn L) (hb : Below w.heap.size w W)
    (hown : W.ownsRow w.heap.size 37 3 (.slice a n c) n (ecs (ordE L))) (hfar : ∀ g, a = some ⟨g, 0, none⟩ → gp ≠ g ∧ cp ≠ g ∧ gb ≠ g ∧ cb ≠ g) (he : ElemsAt W a (ordE L)) :
    Calls Tryz.prog 76 #[.slice a n c, .func (.func 73) #[] #[.pointer (some ⟨gp, 0, none⟩), .pointer (some ⟨cp, 0, none⟩)]] W (DelPost w.heap.size w.heap.size w (visE L)) := by
  subst hn
  have h200 : (ordE L).length ≤ 200 := by
    have h1 := (row_inv hr.2 _ (Nat.le_refl _)).len
    rw [List.take_length] at h1
    have h2 := row_tot hr.2
    unfold ordE
    rw [List.length_map]
    omega
  have h := Del_any (.pointer (some ⟨gp, 0, none⟩)) (.pointer (some ⟨cp, 0, none⟩)) (fun e => !vis L e) a c w.heap.size w.heap.size (ordE L) w W hown (Nat.le_refl _) hb (by omega) hb.size (fun r hr2 e wx hk hf => by
    refine dHid_any gp cp gb cb gn cn L e wx (hin.kpb hk ?_) hci hle hf
    rcases hr2 with h1 | ⟨_, h1⟩
    · exact hfar r h1
    · have := hin.lg; have := hin.lc; have := hin.mg.lt; have := hin.mc.lt
      omega) (fun e he => e_fit hr (.inr he)) he
  have hf : (ordE L).filter (fun x => !(fun e => !vis L e) x) = visE L := by
    unfold visE
    congr 1
    funext x
    simp
  rw [hf] at h
  exact h
theorem vis_end {L : List OpD} (hr : rowP L) (hci : CInv L) (hle : L.length ≤ 1000) {w w1 w2 w3 : World} {a1 : Option Addr} {c1 n5 cb gb cn gn : Nat} (hn5 : (ordE L).length = n5) (how1 : w1.ownsRow w.heap.size 37 3 (.slice a1 n5 c1) (ordE L).length (ecs (ordE L)))
    (he1 : ElemsAt w1 a1 (ordE L)) (hb1 : Below w.heap.size w w1) (hcb : w1.heap.size ≤ cb) (hmc : MapE w2 cb cn (ctV L)) (hb2 : Below w1.heap.size w1 w2) (t1 t2 : TypeId) (hgb : (w2.alloc (.cells #[.map (some cb)] t1)).heap.size ≤ gb) (hmg : MapE w3 gb gn (goV L L []))
    (hb3 : Below (w2.alloc (.cells #[.map (some cb)] t1)).heap.size (w2.alloc (.cells #[.map (some cb)] t1)) w3) :
    Calls Tryz.prog 76 #[.slice a1 n5 c1, .func (.func 73) #[] #[.pointer (some ⟨w3.heap.size, 0, none⟩), .pointer (some ⟨w2.heap.size, 0, none⟩)]] (w3.alloc (.cells #[.map (some gb)] t2)) (DelPost w.heap.size w.heap.size w (visE L)) := by
  have hs2 : (w2.alloc (.cells #[.map (some cb)] t1)).heap.size = w2.heap.size + 1 := by simp
  have hz1 := hb1.size
  have hz2 := hb2.size
  have hz3 := hb3.size
  have hcl := hmc.lt
  have hgl := hmg.lt
  have ba : Below w2.heap.size w2 (w2.alloc (.cells #[.map (some cb)] t1)) := (Below.refl _ _).alloc (Nat.le_refl _) _
  have bb : Below w3.heap.size w3 (w3.alloc (.cells #[.map (some gb)] t2)) := (Below.refl _ _).alloc (Nat.le_refl _) _
  have b23 : Below w2.heap.size w2 w3 := ba.trans (hb3.mono (by omega))
  have b24 : Below w2.heap.size w2 (w3.alloc (.cells #[.map (some gb)] t2)) := b23.trans (bb.mono b23.size)
  have b14 : Below w1.heap.size w1 (w3.alloc (.cells #[.map (some gb)] t2)) := hb2.trans (b24.mono hz2)
  refine vis_del hr hci hle hn5 (gb := gb) (cb := cb) (gn := gn) (cn := cn) ⟨?_, ?_, by simp, by simp; omega, hmg.kept (bb.block gb hgl), hmc.kept (b24.block cb hcl)⟩ (hb1.trans (b14.mono hz1)) ?_ ?_ (he1.below b14)
  · rw [World.cell?_alloc_new]; rfl
  · have h1 : (w2.alloc (.cells #[.map (some cb)] t1)).cell? ⟨w2.heap.size, 0, none⟩ = some (.map (some cb)) := by rw [World.cell?_alloc_new]; rfl
    have h2 := (hb3.cell (p := ⟨w2.heap.size, 0, none⟩) (by rw [hs2]; exact Nat.lt_succ_self _)).trans h1
    exact (bb.cell (p := ⟨w2.heap.size, 0, none⟩) (by show w2.heap.size < w3.heap.size; omega)).trans h2
  · have := owns_belE how1 b14
    rw [hn5] at this
    exact this
  · intro g hg
    have := (how1.lt g (by rw [hg]; rfl)).2
    omega
set_option maxRecDepth 100000 in
set_option maxHeartbeats 4000000 in
theorem dVis_ok (a : Option Addr) (cap : Nat) (l : List OpR) (w : World) (h : OpsAt w a l) (hr : rowP (OpR.os l)) : Calls Tryz.prog 37 #[.slice a l.length cap] w (VisPost (OpR.os l) w) := by
  have hl40 : l.length ≤ 40 := by have := hr.1; rw [olen] at this; exact this
  have HO := Lib.hid (tOrder_ok a cap l w h hr)
  have HC := Lib.hid (fun wx (hx : Below w.heap.size w wx) => dCounts_any a cap l wx (h.below hx) hr.2 (by omega))
  have HT := Lib.hid (fun cb cn wx (hx : Below w.heap.size w wx) hc => dTaken_any a cap l cb cn wx (h.below hx) hr.2 (by omega) hc)
  have HR := Lib.hid hr
  have HCI : RowKit.Hid (CInv (OpR.os l)) := Lib.hid (by
    have := row_ct hr.2 (OpR.os l).length (Nat.le_refl _)
    rwa [List.take_length] at this)
  have HLE := Lib.hid (show (OpR.os l).length ≤ 1000 from by rw [olen]; omega)
  clear h hr
  obtain ⟨n, hn⟩ : ∃ n, l.length = n := ⟨_, rfl⟩
  rw [hn] at HO HC HT ⊢
  clear hn hl40
  generalize OpR.os l = L at *
  unfold OrdPost at HO
  unfold CntsPost at HC
  unfold TaksPost at HT
  obtain ⟨n5, hn5⟩ : ∃ n, (ordE L).length = n := ⟨_, rfl⟩
  have HN5 := Lib.hid hn5
  clear hn5
  go_enter Tryz.func37, Tryz.ntmps37
  go_wp2_with (first
    | (go_at_call 70; refine HO.out.mono ?_; rintro x1 w1 ⟨v1, rfl, hown1, hb1⟩; obtain ⟨a1, c1, hv1, he1, _⟩ := elems_own hown1; rw [HN5.out] at hv1; subst hv1; have HE1 := Lib.hid he1; have HOW1 := Lib.hid hown1; have HB1 := Lib.hid hb1; clear hb1 hown1 he1)
    | (go_at_call 71; refine (HC.out w1 HB1.out).mono ?_; rintro x2 w2 ⟨cb, rfl, hcb, hmc, hb2⟩; have HCB := Lib.hid hcb; have HMC := Lib.hid hmc; have HB2 := Lib.hid hb2; have hcl := hmc.lt; clear hcb hmc hb2)
    | (go_at_call 72; have hz := HB2.out.size; have hba := (Below.refl w2.heap.size w2).alloc (Nat.le_refl _) (.cells #[.map (some cb)] 114); have HMC2 := Lib.hid (HMC.out.kept (hba.block cb hcl)); have HBA := Lib.hid (HB1.out.trans ((HB2.out.trans (hba.mono hz)).mono HB1.out.size)); refine (HT.out cb _ _ HBA.out HMC2.out).mono ?_; rintro x3 w3 ⟨gb, rfl, hgb, ⟨gn, hmg⟩, hb3⟩; have HGB := Lib.hid hgb; have HMG := Lib.hid hmg; have HB3 := Lib.hid hb3; clear hgb hmg hb3 hba hz)
    | (go_at_call 76; refine (vis_end HR.out HCI.out HLE.out HN5.out HOW1.out HE1.out HB1.out HCB.out HMC.out HB2.out 114 116 HGB.out HMG.out HB3.out).mono ?_; rintro x4 w4 ⟨a4, c4, rfl, hown4, hb4⟩; have HOW4 := Lib.hid hown4; have HB4 := Lib.hid hb4; clear hown4 hb4)
    | fail)
  go_ret2
  exact ⟨_, rfl, HOW4.out, HB4.out⟩
end Go.Proofs.YthnedehihbploaaGreatDoor
/- doc.written: the rune of each element that a row writes -/
namespace Go.Proofs.YthnedehihbploaaGreatDoor
open Go.RowKit Go.Lib

theorem conv_rns (s : ByteArray) : ∀ (f pos : Nat) (acc : Array Value), Conv.runesFrom s f pos acc = acc ++ (rv (rnsFrom s f pos)).toArray
  | 0, _, acc => by simp [Conv.runesFrom, rnsFrom, rv]
  | f + 1, pos, acc => by
    unfold Conv.runesFrom rnsFrom
    by_cases h : pos < s.size
    · rw [if_pos h, if_pos h]
      simp only
      rw [conv_rns s f]
      simp [rv]
    · rw [if_neg h, if_neg h]
      simp [rv]
/-- []rune(s) -/
theorem conv_runes (w : World) (s : ByteArray) (hs : s.size ≤ 60000) : ∃ c w1, (convert 9 40 (.string s)).run Tryz.prog w = .ok (.slice (some ⟨w.heap.size, 0, none⟩) (rns s).length c) w1 ∧ RunesAt w1 (some ⟨w.heap.size, 0, none⟩) (rns s) ∧ Below w.heap.size w w1 := by
  have he : Conv.runesFrom s s.size 0 #[] = (rv (rns s)).toArray := by
    rw [conv_rns]
    simp [rns]
  have hz : (Conv.runesFrom s s.size 0 #[]).size = (rns s).length := by rw [he]; simp [rv]
  have hle := rns_length s
  have h := run_runes_of_string (P := Tryz.prog) w 9 40 21 s Tryz.underlying9 Tryz.underlying40 Tryz.underlying21 (by rw [hz]; omega)
  rw [hz, he] at h
  refine ⟨_, _, h, ⟨fun j hj => ⟨w.heap.size, 0, rfl, by simp, ?_⟩, rns_i32 s⟩, ((Below.refl _ _).drew).alloc (Nat.le_refl _) _⟩
  rw [Nat.zero_add, show w.heap.size = w.drew.heap.size from rfl, World.cell?_alloc_new]
  rw [Array.getElem?_append_left (by simp [rv]; exact hj)]
  simp [rv, hj]
def WrtPost (l : List OpD) (w : World) (e : Ending) (w' : World) : Prop := ∃ b, e = .returned (.map (some b)) ∧ w.heap.size ≤ b ∧ (∃ n, MapE w' b n (rnM l)) ∧ Below w.heap.size w w'
/-- behind k ops, and j of the next one's runes -/
structure WSt (l : List OpR) (base : Nat) (w wr : World) (m : Nat) (V : El → Option Value) : Prop where
  map : MapE wr base m V
  below : Below base w wr
theorem WSt.step {l : List OpR} {base : Nat} {w wr wu : World} {m : Nat} {V : El → Option Value} (h : WSt l base w wr m V) (hb : Below wr.heap.size wr wu) : WSt l base w wu m V :=
  ⟨h.map.kept (hb.block base h.map.lt), h.below.trans (hb.mono (Nat.le_of_lt h.map.lt))⟩
theorem KpB.cell {r b o : Nat} {w w' : World} (h : KpB r w w') (hb : b < w.heap.size) (hne : b ≠ r) : w'.cell? ⟨b, o, none⟩ = w.cell? ⟨b, o, none⟩ := by
  unfold World.cell?
  simp only [h.2 b hb hne]
theorem WSt.put {l : List OpR} {base : Nat} {w wr w5 : World} {m : Nat} {V : El → Option Value} (h : WSt l base w wr m V) (hm : m < 1000000) (e : El) (he : e.fit) (v : Value) (hk : KpB base w5 wr) :
    ∃ w', (Instr.mapUpdate 73 (.map (some base)) e.v v).run Tryz.prog wr = .ok () w' ∧ WSt l base w w' (m + 1) (fun x => if x = e then some v else V x) ∧ KpB base w5 w' := by
  obtain ⟨w', h1, h2, h3⟩ := h.map.store (t := 73) Tryz.underlying73 (by simp only [maxLen]; omega) e he v
  exact ⟨w', h1, ⟨h2, h.below.grown h3 (Nat.le_of_lt h.map.lt) (fun j hj => by cases hj; exact Nat.le_refl _)⟩, ⟨Nat.le_trans hk.1 h3.size, fun j hj hne => (h3.block j (Nat.lt_of_lt_of_le hj hk.1) (fun e => by cases e; exact hne rfl)).trans (hk.2 j hj hne)⟩⟩
set_option maxRecDepth 100000 in
set_option maxHeartbeats 4000000 in
theorem dWritten_any (a : Option Addr) (cap : Nat) (l : List OpR) (w : World) (h : OpsAt w a l) (hr : okRow (OpR.os l)) (hl : l.length ≤ 1000) :
    Calls Tryz.prog 38 #[.slice a l.length cap] w (WrtPost (OpR.os l) w) := by
  have HH := Lib.hid h
  have HR := Lib.hid hr
  have HST := Lib.hid (show WSt l w.heap.size w (w.alloc (.map #[] 0)) 0 (rnM []) from ⟨by rw [rnM_nil]; exact MapE.made w, (Below.refl _ _).alloc (Nat.le_refl _) _⟩)
  clear h hr
  obtain ⟨n, hn⟩ : ∃ n, l.length = n := ⟨_, rfl⟩
  have HN := Lib.hid hn
  rw [hn] at hl ⊢
  clear hn
  have hmk : (Instr.makeMap 73 none).run Tryz.prog w = .ok (.map (some w.heap.size)) (w.alloc (.map #[] 0)) := run_makeMap _ w
  generalize hbase : w.heap.size = base at *
  have HBS := Lib.hid hbase
  go_enter Tryz.func38, Tryz.ntmps38
  go_wp2_with fail
  clear hbase hmk
  go_loopw [11] (fun s11 wr => ∃ k m : Nat, s11 = .int .i64 k ∧ k ≤ n ∧ m ≤ k * 60 ∧ WSt l base w wr m (rnM ((OpR.os l).take k))) (fun s11 _ => n - (RowKit.intOf s11).toNat)
  case atStart => exact ⟨0, 0, rfl, Nat.zero_le _, Nat.zero_le _, by rw [List.take_zero]; exact HST.out⟩
  case round =>
    clear HST
    obtain ⟨k, m, rfl, hk, hm, hst⟩ := hrel
    by_cases hlt : k < n
    · have hkl : k < l.length := by rw [HN.out]; exact hlt
      have hbw : Below w.heap.size w wr := by rw [HBS.out]; exact hst.below
      obtain ⟨b, off, rfl, hbb, c0, c1, c2, c3, c4, c5, c6, c7, c8, c9, ca⟩ := (HH.out.below hbw).cells k hkl
      have htk := tk_goes (tk_at HR.out hkl)
      have hokk := htk.1
      have htx := okOp_text hokk
      have hnm := okOp_name hokk
      have HOS := Lib.hid (os_take_snoc hkl)
      have HEND := Lib.hid (rnV_end (row_names HR.out k (by rw [olen]; omega)) htk.2)
      have HPUT := Lib.hid (fun (j : Nat) (r : Int) hr => rnV_put ((OpR.os l).take k) (l[k]'hkl).o j (r := r) hr)
      have HZER := Lib.hid (rnV_zero ((OpR.os l).take k) l[k].o)
      have hbase2 : base < wr.heap.size := hst.map.lt
      have hst1 := hst.step ((Below.refl wr.heap.size wr).alloc (Nat.le_refl _) (l[k].o.obj l[k].a l[k].cap))
      obtain ⟨cc, w5, hcv, hra, hb5⟩ := conv_runes (wr.alloc (l[k].o.obj l[k].a l[k].cap)) l[k].o.text (by omega)
      have HB5 := Lib.hid hb5
      have HRA := Lib.hid hra
      have HS5 := Lib.hid (hst1.step hb5)
      have HBX := Lib.hid (BoxO.new wr l[k].o l[k].a l[k].cap)
      have hr48 : (rns l[k].o.text).length ≤ 48 := Nat.le_trans (rns_length _) htx.2.2
      have HSITE := Lib.hid hnm
      clear hokk htx htk hst hst1 hra hb5
      generalize (OpR.os l).take k = lt at *
      generalize l[k] = r at *
      clear hkl
      obtain ⟨⟨site, seq, kind, ⟨es, eq, ei⟩, text, gone, of, num, gen⟩, ra, rc⟩ := r
      unfold OpD.obj at HBX hcv HRA HB5
      simp only at c0 c1 c2 c3 c4 c5 c6 c7 c8 c9 ca HEND HPUT HBX HZER hcv HRA HB5 hr48 HSITE
      have p6 := HBX.out.c6
      have pl := HBX.out.lt
      have HX5 := Lib.hid (HBX.out.step HB5.out)
      simp only at p6
      obtain ⟨nr, hnr⟩ : ∃ q, (rns text).length = q := ⟨_, rfl⟩
      have HNR := Lib.hid hnr
      rw [hnr] at hr48 hcv
      clear hnr
      have hz5 : (wr.alloc (.cells #[.int .i64 site, .int .i64 seq, .int .i64 kind, .int .i64 es, .int .i64 eq, .int .i64 ei, .string text, .slice ra gone.length rc, .int .i64 of, .int .i64 num, .int .i64 gen] 39)).heap.size = wr.heap.size + 1 := by simp
      rw [hz5] at hcv HRA
      go_wp2_with fail
      obtain ⟨bz, hbz⟩ : ∃ z, wr.heap.size = z := ⟨_, rfl⟩
      rw [hbz] at HRA HX5 hbase2 ⊢
      clear p6 pl hcv c0 c1 c2 c3 c4 c5 c6 c7 c8 c9 ca hz5
      go_loopw [19] (fun s19 wi => ∃ j : Nat, s19 = .int .i64 j ∧ j ≤ nr ∧ WSt l base w wi (m + j) (rnV lt ⟨site, seq, kind, ⟨es, eq, ei⟩, text, gone, of, num, gen⟩ j) ∧ KpB base w5 wi) (fun s19 _ => nr - (RowKit.intOf s19).toNat)
      case atStart => exact ⟨0, rfl, Nat.zero_le _, by rw [HZER.out]; exact HS5.out, KpB.refl _ _⟩
      case round =>
        obtain ⟨j, rfl, hj, hin, hkp⟩ := hrel
        have HIN := Lib.hid hin
        have HKP := Lib.hid hkp
        by_cases hlt2 : j < nr
        · have hjl : j < (rns text).length := by rw [HNR.out]; exact hlt2
          obtain ⟨b5, off5, hb5a, hb5, x0⟩ := HRA.out.cell j hjl
          have e5 : b5 = bz + 1 ∧ off5 = 0 := by simp only [Option.some.injEq, Addr.mk.injEq, and_true] at hb5a; omega
          obtain ⟨rfl, rfl⟩ := e5
          have x1 := (hkp.cell (o := 0 + j) hb5 (by omega)).trans x0
          have hbx := HX5.out
          have y0 := (hkp.cell (o := 0) hbx.lt (by omega)).trans hbx.c0
          have y1 := (hkp.cell (o := 1) hbx.lt (by omega)).trans hbx.c1
          have yl := Nat.lt_of_lt_of_le hbx.lt hkp.1
          have xl := Nat.lt_of_lt_of_le hb5 hkp.1
          simp only [Nat.zero_add] at x1
          simp only at y0 y1
          have hput := HPUT.out j (rns text)[j] (List.getElem?_eq_getElem hjl)
          obtain ⟨w6, hr6, hs6, hk6⟩ := hin.put (by have : k * 60 ≤ 1000 * 60 := Nat.mul_le_mul_right _ (by omega); omega) ⟨site, seq, (j : Int)⟩ (by have := HSITE.out; unfold El.fit in64; simp only; omega) (.int .i32 (rns text)[j]) hkp
          rw [← hput] at hs6
          have HS6 := Lib.hid hs6
          have HK6 := Lib.hid hk6
          unfold El.v at hr6
          simp only at hr6
          generalize (rns text)[j] = rr at *
          clear hjl hin hkp hput hs6 hk6 hbx x0 hb5a hb5
          go_wp2_with fail
          go_roundw
          case rel => exact ⟨j + 1, by go_num, by omega, HS6.out, HK6.out⟩
          case measure => simp [RowKit.intOf]; omega
        · have h0 : j = nr := by omega
          have HNX : RowKit.Hid (WSt l base w wr (m + nr) (rnM ((OpR.os l).take (k + 1)))) := Lib.hid (by
            have h1 := hin
            rw [h0, ← HNR.out, HEND.out, HNR.out] at h1
            rw [HOS.out]
            exact h1)
          clear hin hkp
          go_wp2_with fail
          go_roundw
          case rel => exact ⟨k + 1, m + nr, by go_num, by omega, by omega, HNX.out⟩
          case measure => simp [RowKit.intOf]; omega
    · have h0 : k = n := by omega
      have HFIN : RowKit.Hid (WrtPost (OpR.os l) w (.returned (.map (some base))) wr) := Lib.hid (by
        have hm := hst.map
        rw [List.take_of_length_le (by rw [olen, HN.out]; omega)] at hm
        exact ⟨base, rfl, by rw [HBS.out]; exact Nat.le_refl _, ⟨_, hm⟩, by rw [HBS.out]; exact hst.below⟩)
      clear hst
      go_wp2
      go_ret
      exact HFIN.out
end Go.Proofs.YthnedehihbploaaGreatDoor
/- doc.Text -/
namespace Go.Proofs.YthnedehihbploaaGreatDoor
open Go.RowKit Go.Lib

def TextPost (s : List UInt8) (e : Int) (w : World) (x : Ending) (w' : World) : Prop := x = .returned (.tuple #[S s, .int .i64 e]) ∧ Below w.heap.size w w'
theorem dText_bad (a : Option Addr) (cap : Nat) (l : List OpR) (w : World) (h : OpsAt w a l) (hr : ¬ rowP (OpR.os l)) : Calls Tryz.prog 9 #[.slice a l.length cap] w (TextPost [] 1 w) := by
  have HO := Lib.hid (dVis_bad a cap l w h hr)
  clear h hr
  generalize l.length = n at *
  go_enter Tryz.func9, Tryz.ntmps9
  go_wp2_with (first | (go_at_call 37; refine HO.out.mono ?_; rintro x1 w1 ⟨rfl, hb1⟩; have HB1 := Lib.hid hb1; clear hb1) | fail)
  go_ret2
  exact ⟨rfl, HB1.out⟩
set_option maxRecDepth 100000 in
set_option maxHeartbeats 4000000 in
theorem dText_ok (a : Option Addr) (cap : Nat) (l : List OpR) (w : World) (h : OpsAt w a l) (hr : rowP (OpR.os l)) : Calls Tryz.prog 9 #[.slice a l.length cap] w (TextPost (docT (OpR.os l)) 0 w) := by
  have hl40 : l.length ≤ 40 := by have := hr.1; rw [olen] at this; exact this
  have HV := Lib.hid (dVis_ok a cap l w h hr)
  have HW := Lib.hid (fun wx (hx : Below w.heap.size w wx) => dWritten_any a cap l wx (h.below hx) hr.2 (by omega))
  have HR := Lib.hid hr
  clear h hr
  obtain ⟨n, hn⟩ : ∃ n, l.length = n := ⟨_, rfl⟩
  rw [hn] at HV HW ⊢
  clear hn hl40
  generalize OpR.os l = L at *
  unfold VisPost at HV
  unfold WrtPost at HW
  have HFI := Lib.hid (fun e (he : e ∈ visE L) => e_fit HR.out (.inr (visE_ord he)))
  have hle := visE_le HR.out.2
  have HRL := Lib.hid (visR_len L)
  have HRO := Lib.hid (visR_ok HR.out.2)
  have HRE := Lib.hid (fun (k : Nat) (hk : k < (visE L).length) => (by
    have h1 : k < (visR L).length := by rw [visR_len]; exact hk
    have h2 : (visR L)[k] = rnE L (visE L)[k] := by simp [visR]
    have h3 := List.take_succ_eq_append_getElem h1
    rw [h2] at h3
    exact h3 : (visR L).take (k + 1) = (visR L).take k ++ [rnE L (visE L)[k]]))
  have HRR := Lib.hid (fun (k : Nat) (hk : k < (visE L).length) => (by
    have h1 : k < (visR L).length := by rw [visR_len]; exact hk
    have h2 : (visR L)[k] = rnE L (visE L)[k] := by simp [visR]
    rw [← h2]
    exact visR_ok HR.out.2 _ (List.getElem_mem h1) : okR (rnE L (visE L)[k]) = true))
  obtain ⟨X, hX⟩ : ∃ X, visE L = X := ⟨_, rfl⟩
  obtain ⟨n5, hn5⟩ : ∃ n, X.length = n := ⟨_, rfl⟩
  have HN5 := Lib.hid hn5
  have HDT : RowKit.Hid (docT L = mk (visR L)) := Lib.hid rfl
  rw [hX] at HV HFI hle HRL HRE HRR
  rw [hn5] at hle
  clear hX hn5
  go_enter Tryz.func9, Tryz.ntmps9
  go_wp2_with (first
    | (go_at_call 37; refine HV.out.mono ?_; rintro x1 w1 ⟨v1, rfl, hown1, hb1⟩; obtain ⟨a1, c1, hv1, he1, _⟩ := elems_own hown1; rw [HN5.out] at hv1; subst hv1; have HE1 := Lib.hid he1; have HB1 := Lib.hid hb1; clear hb1 hown1 he1)
    | (go_at_call 38; refine (HW.out w1 HB1.out).mono ?_; rintro x2 w2 ⟨mb, rfl, hmb, ⟨mn, hmm⟩, hb2⟩; have HMM := Lib.hid hmm; have HB2 := Lib.hid hb2; have HE2 := Lib.hid (HE1.out.below hb2); clear hmm hb2 hmb)
    | fail)
  have HLK := Lib.hid (fun (e : El) (he : e ∈ X) (wx : World) (hx : Below w2.heap.size w2 wx) => (by
    have h := ((HMM.out.kept (hx.block mb HMM.out.lt)).look (t := 73) (z := .int .i32 0) Tryz.underlying73 (by kernel_rfl) e (HFI.out e he) false)
    simp only [Bool.false_eq_true, if_false] at h
    have hv : (rnM L e).getD (.int .i32 0) = .int .i32 (rnE L e) := by
      unfold rnM rnE
      cases rnP L e <;> rfl
    rw [hv] at h
    exact h : (Instr.lookup 73 (.map (some mb)) (.agg #[.int .i64 e.s, .int .i64 e.q, .int .i64 e.i]) false).run Tryz.prog wx = .ok (.int .i32 (rnE L e)) wx))
  have HB02 := Lib.hid (HB1.out.trans (HB2.out.mono HB1.out.size))
  obtain ⟨B, hB⟩ : ∃ b, w2.heap.size = b := ⟨_, rfl⟩
  have HBB := Lib.hid hB
  have HIB := Lib.hid (Lib.IsBuilderF.of (Lib.fresh_isBuilder 78 5 w2))
  have HBA : RowKit.Hid (Below w2.heap.size w2 (w2.alloc (.cells #[.pointer none, .slice none 0 0] 78))) := Lib.hid ((Below.refl _ _).alloc (Nat.le_refl _) _)
  rw [hB] at HIB HBA HLK ⊢
  clear hB
  go_loopw [22] (fun s22 wr => ∃ k : Nat, k ≤ n5 ∧ s22 = .int .i64 k ∧ Lib.IsBuilderF 78 5 B B (Lib.byteCells (Go.Proofs.YthnedehihbploaaGreatDoor.mk ((visR L).take k))) wr ∧ Below B w2 wr) (fun s22 _ => n5 - (RowKit.intOf s22).toNat)
  case atStart => exact ⟨0, by omega, rfl, HIB.out, HBA.out⟩
  case round =>
    clear HIB HBA
    obtain ⟨k, hk, rfl, hI, hbw⟩ := hrel
    have HBW := Lib.hid hbw
    have hsz : B ≤ wr.heap.size := by rw [← HBB.out]; exact hbw.size
    by_cases hlt : k < n5
    · have hkl : k < X.length := by rw [HN5.out]; exact hlt
      have hb2w : Below w2.heap.size w2 wr := by rw [HBB.out]; exact hbw
      obtain ⟨b, off, rfl, hbb, x0, x1, x2⟩ := (HE2.out.below hb2w).cell k hkl
      have HT := Lib.hid (HRE.out k hkl)
      have hrk := okR_of (HRR.out k hkl)
      have hml := mk_length ((visR L).take k)
      have hlk2 : ((visR L).take k).length ≤ k := List.length_take_le _ _
      have HBE := Lib.hid (BoxE.new wr X[k])
      have hba : Below B w2 (wr.alloc (.cells #[.int .i64 X[k].s, .int .i64 X[k].q, .int .i64 X[k].i] 37)) := hbw.alloc hsz _
      have hlk := HLK.out X[k] (List.getElem_mem hkl) (wr.alloc (.cells #[.int .i64 X[k].s, .int .i64 X[k].q, .int .i64 X[k].i] 37)) hba
      have hI2 := hI.alloc (.cells #[.int .i64 X[k].s, .int .i64 X[k].q, .int .i64 X[k].i] 37)
      have HBA := Lib.hid hba
      generalize rnE L X[k] = r at *
      generalize X[k] = x at *
      clear hkl
      obtain ⟨xs, xq, xi⟩ := x
      simp only at x0 x1 x2 HBE hlk
      have y0 := HBE.out.c0
      have y1 := HBE.out.c1
      have y2 := HBE.out.c2
      have yl := HBE.out.lt
      simp only at y0 y1 y2
      have cW := Any.Builder_WriteRune_k Tryz.lays168 Tryz.Builder_Extra_168 B B _ r (by omega) (by omega) _ hI2 (by rw [Lib.byteCells_length]; omega) (by simp; omega)
      have HCW := Lib.hid cW
      clear cW hI hI2 hb2w hbw hba
      go_wp2_with (first | (go_at_call 39; refine Calls.mono HCW.out ?_; rintro e5 W1 ⟨rfl, h1, b1, k1⟩; have HI1 := Lib.hid h1; have hb1 := HBA.out.trans b1; have HB9 := Lib.hid hb1; clear h1 b1 k1 hb1) | fail)
      go_roundw
      case rel => exact ⟨k + 1, by omega, by go_num, by rw [HT.out, mk_append, Lib.byteCells_append, show Go.Proofs.YthnedehihbploaaGreatDoor.mk [r] = Lib.encodeRune r from by simp [Go.Proofs.YthnedehihbploaaGreatDoor.mk], Lib.byteCells_encodeRune]; exact Or.inr HI1.out, HB9.out⟩
      case measure => simp [RowKit.intOf]; omega
    · have HT := Lib.hid (List.take_of_length_le (l := visR L) (i := k) (by rw [HRL.out, HN5.out]; omega))
      have cS := Any.Builder_String_any_k Tryz.lays169 Tryz.Builder_Extra_169 B B (Go.Proofs.YthnedehihbploaaGreatDoor.mk ((visR L).take k)) wr hI hsz
      have HCS := Lib.hid cS
      clear cS hI hbw
      go_wp2_with (first | (go_at_call 40; refine Calls.mono HCS.out ?_; rintro e5 W1 ⟨rfl, _, b1, _⟩; have HB9 := Lib.hid (HBW.out.trans b1); clear b1) | fail)
      go_ret2
      refine ⟨(show Ending.returned (.tuple #[S (Go.Proofs.YthnedehihbploaaGreatDoor.mk ((visR L).take k)), .int .i64 0]) = _ from by rw [HT.out, HDT.out]), HB02.out.trans (HB9.out.mono ?_)⟩
      rw [← HBB.out]
      exact HB02.out.size
end Go.Proofs.YthnedehihbploaaGreatDoor
