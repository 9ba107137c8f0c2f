/- package pack: numbers, elemBytes -/
import Derived.Test.YtnkinbobnhdpaaaDoorKBase
import Derived.Test.YtnkinbobnhdpaaaDoorKShelf
import Derived.Test.YtnkinbobnhdpaaaDoorLHeavy
import Derived.Lib.OthersKept
namespace Go.Proofs.YtnkinbobnhdpaaaDoor
open Go.RowKit Go.Lib Go.Shelf

/-- a string of new make -/
def StrB (l : List UInt8) (w : World) (e : Ending) (w' : World) : Prop := e = .returned (Nb.S l) ∧ Below w.heap.size w w'
theorem builder_below {B b : Nat} {T t : TypeId} {bs : List Value} {w w' : World} (h : Lib.IsBuilderF T t B b bs w) (hb : Below w.heap.size w w') : Lib.IsBuilderF T t B b bs w' := by
  have one : ∀ p, Lib.BuilderAtF T t B b p bs w → Lib.BuilderAtF T t B b p bs w' := by
    rintro p ⟨h1, v, h2, ⟨h3, h4⟩, h5⟩
    have blk : ∀ k o, w.heap[k]? = some o → w'.heap[k]? = some o := fun k o hk => (hb.block k (Array.getElem?_eq_some_iff.1 hk).1).trans hk
    refine ⟨h1, v, blk _ _ h2, ⟨h3, ?_⟩, h5⟩
    rcases h4 with h4 | ⟨g, cap, cur, fz, hv, hg, hh, r⟩
    · exact .inl h4
    · exact .inr ⟨g, cap, cur, fz, hv, hg, blk _ _ hh, r⟩
  exact h.elim (fun x => .inl (one _ x)) (fun x => .inr (one _ x))
theorem encL_take {l : List Int} {k : Nat} (h : k < l.length) : encL (l.take (k + 1)) = encL (l.take k) ++ encI l[k] := by
  rw [List.take_succ_eq_append_getElem h, encL_append]
  show _ ++ (encI l[k] ++ []) = _
  rw [List.append_nil]
theorem encL_take_len {l : List Int} (k : Nat) (h : ∀ n ∈ l, Nb.okB n = true) : (encL (l.take k)).length ≤ 5 * l.length := by
  have h1 := encL_len (l.take k) (fun n hn => (Nb.okB_of (h n (List.mem_of_mem_take hn))).2)
  have h2 := List.length_take_le k l
  have h3 : (l.take k).length ≤ l.length := by rw [List.length_take]; omega
  omega

set_option maxRecDepth 100000 in
set_option maxHeartbeats 1000000 in
theorem numbers_any (a : Option Addr) (cap : Nat) (l : List Int) (w : World) (h : NumsAt w a l) (hk : ∀ n ∈ l, Nb.okB n = true) (hl : l.length ≤ 100000) : Calls Tryd.prog 79 #[.slice a l.length cap] w (StrB (encL l) w) := by
  have H := Lib.hid h
  have HK := Lib.hid hk
  have HLN := Lib.hid (fun k => encL_take_len k hk)
  clear h hk
  go_enter Tryd.func79, Tryd.ntmps79
  go_wp2
  go_loopw [10] (fun i wr => ∃ k : Nat, k ≤ l.length ∧ i = .int .i64 k ∧ Lib.IsBuilderF 131 5 w.heap.size w.heap.size (Lib.byteCells (encL (l.take k))) wr ∧ Below w.heap.size w wr) (fun i _ => l.length - (RowKit.intOf i).toNat)
  case atStart => exact ⟨0, by omega, rfl, Lib.IsBuilderF.of (Lib.fresh_isBuilder 131 5 w), (Below.refl _ w).alloc (Nat.le_refl _) _⟩
  case round =>
    obtain ⟨k, hk, rfl, hI, hbw⟩ := hrel
    have HB := Lib.hid hbw
    have HI := Lib.hid hI
    clear hI
    by_cases hlt : k < l.length
    · obtain ⟨b, off, ha, hb, hc⟩ := H.out.cell k hlt
      have hc2 := (hbw.cell (p := ⟨b, off + k, none⟩) hb).trans hc
      have HT := Lib.hid (encL_take hlt)
      have hok := Lib.hid (HK.out l[k] (List.getElem_mem hlt))
      have HL5 := Lib.hid (encI_len l[k] (Nb.okB_of hok.out).2)
      clear hc hbw
      generalize l[k] = r at *
      subst ha
      go_wp2_with (first
        | (go_at_call 109; refine (Nb.Put_ok r _ hok.out).mono ?_; rintro e w1 ⟨rfl, hb1⟩; have HI1 := Lib.hid (builder_below HI.out hb1); have HB1 := Lib.hid (HB.out.trans (hb1.mono HB.out.size)); clear hb1)
        | (go_at_call 90; refine Calls.mono (Any.Builder_WriteString_k Tryd.lays166 Tryd.Builder_Extra_166 w.heap.size w.heap.size _ ⟨(uvarint r.toNat).toArray⟩ _ HI1.out (by rw [Lib.byteCells_length]; have h1 := HLN.out k; have h2 : (⟨(uvarint r.toNat).toArray⟩ : ByteArray).size ≤ 5 := HL5.out; omega) HB1.out.size) ?_; rintro e W1 ⟨rfl, h1, b1, k1⟩; have HI2 := Lib.hid h1; have HB2 := Lib.hid (HB1.out.trans b1); clear h1 b1 k1)
        | fail)
      go_roundw
      case rel => exact ⟨k + 1, by omega, by go_num, by rw [HT.out, Lib.byteCells_append]; exact Or.inr HI2.out, HB2.out⟩
      case measure => simp [RowKit.intOf]; omega
    · have HT := Lib.hid (List.take_of_length_le (l := l) (i := k) (by omega))
      have cS := Lib.hid (Any.Builder_String_any_k Tryd.lays169 Tryd.Builder_Extra_169 w.heap.size w.heap.size (encL (l.take k)) wr HI.out HB.out.size)
      clear hbw
      go_wp2_with (go_at_call 91; refine Calls.mono cS.out ?_)
      rintro e W1 ⟨rfl, _, b1, _⟩
      have HB1 := Lib.hid (HB.out.trans b1)
      clear b1
      go_wp2
      go_ret
      exact ⟨(show Ending.returned (Nb.S (encL (l.take k))) = .returned (Nb.S (encL l)) by rw [HT.out]), HB1.out⟩

/-- may an element's numbers be put? -/
def El.okN (e : El) : Bool := Nb.okB e.s && (Nb.okB e.q && Nb.okB e.i)
theorem El.okN_all {e : El} (h : e.okN = true) : ∀ n ∈ e.nums, Nb.okB n = true := by
  unfold El.okN at h
  simp only [Bool.and_eq_true] at h
  intro n hn
  unfold El.nums at hn
  simp only [List.mem_cons, List.not_mem_nil, or_false] at hn
  rcases hn with rfl | rfl | rfl
  · exact h.1
  · exact h.2.1
  · exact h.2.2
theorem nums_new (w : World) (l : List Int) (t : TypeId) (cs : Array Value) (hcs : cs = (l.map (Value.int .i64)).toArray) : NumsAt (w.alloc (.cells cs t)) (some ⟨w.heap.size, 0, none⟩) l := by
  subst hcs
  refine ⟨fun j hj => ⟨w.heap.size, 0, rfl, by simp, ?_⟩⟩
  rw [World.cell?_alloc_new]
  simp [hj]
theorem elsB_len : ∀ (l : List El), (∀ e ∈ l, e.okN = true) → (elsB l).length ≤ 15 * l.length
  | [], _ => by simp [elsB]
  | x :: r, h => by
    have h1 := encL_len x.nums (fun n hn => (Nb.okB_of (El.okN_all (h x (by simp)) n hn)).2)
    have h2 := elsB_len r (fun n hn => h n (by simp [hn]))
    show (encL x.nums ++ elsB r).length ≤ _
    rw [List.length_append, List.length_cons]
    have h3 : x.nums.length = 3 := rfl
    omega
theorem elsB_take {l : List El} {k : Nat} (h : k < l.length) : elsB (l.take (k + 1)) = elsB (l.take k) ++ encL l[k].nums := by
  rw [List.take_succ_eq_append_getElem h, elsB_append, elsB_one]
theorem elsB_take_len {l : List El} (k : Nat) (h : ∀ e ∈ l, e.okN = true) : (elsB (l.take k)).length ≤ 15 * l.length := by
  have h1 := elsB_len (l.take k) (fun e he => h e (List.mem_of_mem_take he))
  have h3 : (l.take k).length ≤ l.length := by rw [List.length_take]; omega
  omega

set_option maxRecDepth 100000 in
set_option maxHeartbeats 1000000 in
theorem elemBytes_any (a : Option Addr) (cap : Nat) (l : List El) (w : World) (h : ElemsAt w a l) (hk : ∀ e ∈ l, e.okN = true) (hl : l.length ≤ 100000) : Calls Tryd.prog 80 #[.slice a l.length cap] w (StrB (elsB l) w) := by
  have H := Lib.hid h
  have HK := Lib.hid hk
  have HLN := Lib.hid (fun k => elsB_take_len k hk)
  clear h hk
  go_enter Tryd.func80, Tryd.ntmps80
  go_wp2
  go_loopw [8] (fun i wr => ∃ k : Nat, k ≤ l.length ∧ i = .int .i64 k ∧ Lib.IsBuilderF 131 5 w.heap.size w.heap.size (Lib.byteCells (elsB (l.take k))) wr ∧ Below w.heap.size w wr) (fun i _ => l.length - (RowKit.intOf i).toNat)
  case atStart => exact ⟨0, by omega, rfl, Lib.IsBuilderF.of (Lib.fresh_isBuilder 131 5 w), (Below.refl _ w).alloc (Nat.le_refl _) _⟩
  case round =>
    obtain ⟨k, hk, rfl, hI, hbw⟩ := hrel
    have HB := Lib.hid hbw
    have HI := Lib.hid hI
    clear hI
    by_cases hlt : k < l.length
    · obtain ⟨b1, o1, h1, hb1, hc1, hc2, hc3⟩ := H.out.cell k hlt
      have hr1 := (hbw.cell (p := ⟨b1, o1 + k * 3, none⟩) hb1).trans hc1
      have hr2 := (hbw.cell (p := ⟨b1, o1 + k * 3 + 1, none⟩) hb1).trans hc2
      have hr3 := (hbw.cell (p := ⟨b1, o1 + k * 3 + 2, none⟩) hb1).trans hc3
      have HT := Lib.hid (elsB_take hlt)
      have hok := Lib.hid (El.okN_all (HK.out l[k] (List.getElem_mem hlt)))
      have HL5 := Lib.hid (encL_len l[k].nums (fun n hn => (Nb.okB_of (hok.out n hn)).2))
      clear hc1 hc2 hc3 hbw
      generalize l[k] = r at *
      obtain ⟨s, q, i⟩ := r
      simp only at hr1 hr2 hr3
      subst h1
      have HIa := Lib.hid ((HI.out.alloc (.cells #[.int .i64 s, .int .i64 q, .int .i64 i] 34)).alloc (.cells #[.int .i64 s, .int .i64 q, .int .i64 i] 3))
      have HBa := Lib.hid ((HB.out.alloc HB.out.size (.cells #[.int .i64 s, .int .i64 q, .int .i64 i] 34)).alloc (by have := HB.out.size; simp; omega) (.cells #[.int .i64 s, .int .i64 q, .int .i64 i] 3))
      have HNU := Lib.hid (nums_new (wr.alloc (.cells #[.int .i64 s, .int .i64 q, .int .i64 i] 34)) [s, q, i] 3 #[.int .i64 s, .int .i64 q, .int .i64 i] rfl)
      have HCN := Lib.hid (fun wx hx => numbers_any (some ⟨wr.heap.size + 1, 0, none⟩) 3 [s, q, i] wx hx hok.out (by simp))
      go_wp2_with (first
        | (go_at_call 79; refine (HCN.out _ (by have h9 := HNU.out; simp only [World.size_alloc] at h9; exact h9)).mono ?_; rintro e w1 ⟨rfl, hb1'⟩; have HI1 := Lib.hid (builder_below HIa.out hb1'); have HB1 := Lib.hid (HBa.out.trans (hb1'.mono HBa.out.size)); clear hb1')
        | (go_at_call 90; refine Calls.mono (Any.Builder_WriteString_k Tryd.lays166 Tryd.Builder_Extra_166 w.heap.size w.heap.size _ ⟨(encL [s, q, i]).toArray⟩ _ HI1.out (by rw [Lib.byteCells_length]; have h1 := HLN.out k; have h2 : (⟨(encL [s, q, i]).toArray⟩ : ByteArray).size ≤ 5 * 3 := HL5.out; omega) HB1.out.size) ?_; rintro e W1 ⟨rfl, h1, b1, k1⟩; have HI2 := Lib.hid h1; have HB2 := Lib.hid (HB1.out.trans b1); clear h1 b1 k1)
        | fail)
      go_roundw
      case rel => exact ⟨k + 1, by omega, by go_num, by rw [HT.out, Lib.byteCells_append]; exact Or.inr HI2.out, HB2.out⟩
      case measure => simp [RowKit.intOf]; omega
    · have HT := Lib.hid (List.take_of_length_le (l := l) (i := k) (by omega))
      have cS := Lib.hid (Any.Builder_String_any_k Tryd.lays169 Tryd.Builder_Extra_169 w.heap.size w.heap.size (elsB (l.take k)) wr HI.out HB.out.size)
      clear hbw
      go_wp2_with (go_at_call 91; refine Calls.mono cS.out ?_)
      rintro e W1 ⟨rfl, _, b1, _⟩
      have HB1 := Lib.hid (HB.out.trans b1)
      clear b1
      go_wp2
      go_ret
      exact ⟨(show Ending.returned (Nb.S (elsB (l.take k))) = .returned (Nb.S (elsB l)) by rw [HT.out]), HB1.out⟩
end Go.Proofs.YtnkinbobnhdpaaaDoor
