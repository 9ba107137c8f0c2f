/- the rows that the laws of layer 5 make: pure -/
import Derived.Test.YtbalcamjccfkdaaDoorROps
import Derived.Test.YtbalcamjccfkdaaDoorRGo
namespace Go.Proofs.YtbalcamjccfkdaaDoor
open Go.RowKit Go.Lib

def txO (i : Nat) : ByteArray := if i % 3 = 0 then ⟨#[97]⟩ else if i % 3 = 1 then ⟨#[98, 99]⟩ else ⟨#[100, 101, 102]⟩
def elO (k t : Nat) : El := ⟨1 + (k : Int) % 3, 1 + (k : Int) / 3, (t : Int)⟩
def aftO (kind c i : Nat) : El := if i = 0 then ⟨0, 0, 0⟩ else if kind = 0 then ⟨0, 0, 0⟩ else if kind = 1 then elO (i - 1) 0 else elO ((i * kind + c) % i) (((i * kind + c) % i) % 3)
def opO (i : Nat) (a : El) : OpD := ⟨1 + (i : Int) % 3, 1 + (i : Int) / 3, 1, a, txO i, [], 0, 0, 0⟩
def rowO (kind c i : Nat) : OpD := opO i (aftO kind c i)
def mrow (kind c n : Nat) : List OpD := (List.range n).map (rowO kind c)
theorem mrow_succ (kind c n : Nat) : mrow kind c (n + 1) = mrow kind c n ++ [rowO kind c n] := by unfold mrow; rw [List.range_succ, List.map_append]; rfl
theorem mrow_len (kind c n : Nat) : (mrow kind c n).length = n := by simp [mrow]
theorem mrow_take {kind c n k : Nat} (h : k ≤ n) : (mrow kind c n).take k = mrow kind c k := by
  unfold mrow
  rw [← List.map_take, List.take_range, Nat.min_eq_left h]
theorem mrow_get {kind c n k : Nat} (h : k < n) : (mrow kind c n)[k]? = some (rowO kind c k) := by simp [mrow, h]
/-- which op it is written behind -/
theorem aft_cases (kind c i : Nat) : aftO kind c i = ⟨0, 0, 0⟩ ∨ ∃ k, k < i ∧ (aftO kind c i = elO k 0 ∨ aftO kind c i = elO k (k % 3)) := by
  unfold aftO
  by_cases h0 : i = 0
  · rw [if_pos h0]; exact .inl rfl
  · rw [if_neg h0]
    by_cases h1 : kind = 0
    · rw [if_pos h1]; exact .inl rfl
    · rw [if_neg h1]
      by_cases h2 : kind = 1
      · rw [if_pos h2]; exact .inr ⟨i - 1, by omega, .inl rfl⟩
      · rw [if_neg h2]; exact .inr ⟨(i * kind + c) % i, Nat.mod_lt _ (by omega), .inr rfl⟩
theorem op_ok24 : (List.range 24).all (fun i => okOp (opO i ⟨0, 0, 0⟩) && (List.range i).all (fun k => okOp (opO i (elO k 0)) && okOp (opO i (elO k (k % 3))))) = true := by kernel_rfl
theorem row_okOp {kind c i : Nat} (h : i < 24) : okOp (rowO kind c i) = true := by
  have h2 := op_ok24
  rw [List.all_eq_true] at h2
  have h3 := h2 i (List.mem_range.2 h)
  rw [Bool.and_eq_true, List.all_eq_true] at h3
  unfold rowO
  rcases aft_cases kind c i with e | ⟨k, hk, e | e⟩
  · rw [e]; exact h3.1
  · have h4 := h3.2 k (List.mem_range.2 hk)
    rw [Bool.and_eq_true] at h4
    rw [e]; exact h4.1
  · have h4 := h3.2 k (List.mem_range.2 hk)
    rw [Bool.and_eq_true] at h4
    rw [e]; exact h4.2
theorem cnt24 : (List.range 24).all (fun i => ((List.range i).filter (fun (j : Nat) => decide ((1 + (j : Int) % 3) = 1 + (i : Int) % 3))).length == i / 3) = true := by kernel_rfl
theorem row_cnt {kind c i : Nat} (h : i < 24) : cnt (mrow kind c i) (1 + (i : Int) % 3) = i / 3 := by
  have h2 := cnt24
  rw [List.all_eq_true] at h2
  have h3 := eq_of_beq (h2 i (List.mem_range.2 h))
  unfold cnt mrow
  rw [List.filter_map, List.length_map]
  exact h3
theorem fk24 : (List.range 24).all (fun i => (List.range i).all (fun k => (List.range i).findIdx (fun (j : Nat) => decide (1 + (j : Int) % 3 = 1 + (k : Int) % 3 ∧ 1 + (j : Int) / 3 = 1 + (k : Int) / 3)) == k)) = true := by kernel_rfl
theorem row_fk {kind c i k : Nat} (h : i < 24) (hk : k < i) : fk (mrow kind c i) (1 + (k : Int) % 3) (1 + (k : Int) / 3) = k := by
  have h2 := fk24
  rw [List.all_eq_true] at h2
  have h3 := h2 i (List.mem_range.2 h)
  rw [List.all_eq_true] at h3
  have h4 := eq_of_beq (h3 k (List.mem_range.2 hk))
  unfold fk mrow
  rw [List.findIdx_map]
  exact h4
theorem nr24 : (List.range 24).all (fun k => nR (txO k) == 1 + k % 3) = true := by kernel_rfl
theorem row_nr {k : Nat} (h : k < 24) : nR (txO k) = 1 + k % 3 := by
  have h2 := nr24
  rw [List.all_eq_true] at h2
  exact eq_of_beq (h2 k (List.mem_range.2 h))
theorem row_goes {kind c i : Nat} (h : i < 24) : goes (mrow kind c i) (rowO kind c i) = true := by
  unfold goes
  rw [row_okOp h]
  have h1 : (rowO kind c i).seq = cnt (mrow kind c i) (rowO kind c i).site + 1 := by
    show 1 + (i : Int) / 3 = (cnt (mrow kind c i) (1 + (i : Int) % 3) : Nat) + 1
    rw [row_cnt h]
    omega
  have hw : wrt (mrow kind c i) (rowO kind c i).after = true := by
    show wrt (mrow kind c i) (aftO kind c i) = true
    have key : ∀ k t, k < i → t ≤ k % 3 → wrt (mrow kind c i) (elO k t) = true := by
      intro k t hk ht
      unfold wrt elO
      simp only
      rw [row_fk h hk, mrow_get hk]
      have hn : nR (rowO kind c k).text = 1 + k % 3 := row_nr (by omega)
      simp only [hn]
      rw [decide_eq_true (show (0 : Int) ≤ (t : Int) from by omega), decide_eq_true (show (t : Int) < ((1 + k % 3 : Nat) : Int) from by omega)]
      simp
    rcases aft_cases kind c i with e | ⟨k, hk, e | e⟩
    · rw [e]; exact wrt_begin rfl
    · rw [e]; exact key k 0 hk (Nat.zero_le _)
    · rw [e]; exact key k (k % 3) hk (Nat.le_refl _)
  rw [decide_eq_true h1, hw]
  rfl
theorem tot24 : (List.range 25).all (fun n => decide (((List.range n).map (fun k => nR (txO k))).sum ≤ 200)) = true := by kernel_rfl
theorem mrow_ok {kind c n : Nat} (h : n ≤ 24) : rowP (mrow kind c n) := by
  rw [row_iff]
  refine ⟨by rw [mrow_len]; omega, fun k hk => ?_, ?_⟩
  · rw [mrow_len] at hk
    have h4 : (mrow kind c n)[k]'(by rw [mrow_len]; exact hk) = rowO kind c k := by simp [mrow]
    rw [mrow_take (by omega), h4]
    exact row_goes (by omega)
  · have h2 := tot24
    rw [List.all_eq_true] at h2
    have h3 := of_decide_eq_true (h2 n (List.mem_range.2 (by omega)))
    unfold tot mrow
    rw [List.map_map]
    exact h3
theorem txO_size (i : Nat) : (txO i).size ≤ 3 := by
  unfold txO
  split
  · decide
  · split <;> decide
theorem mrow_at (kind c n : Nat) (w : World) : ∀ r ∈ (mrow kind c n).map mkR, OpAt w r.o r.a r.cap := by
  intro r hr
  obtain ⟨o, ho, rfl⟩ := List.mem_map.1 hr
  obtain ⟨j, _, rfl⟩ := List.mem_map.1 ho
  exact mk_at (o := rowO kind c j) rfl (Nat.le_trans (txO_size j) (by decide)) w
theorem mrow_szs (kind c n : Nat) : Szs ((mrow kind c n).map mkR) := by
  intro r hr
  obtain ⟨o, ho, rfl⟩ := List.mem_map.1 hr
  obtain ⟨j, _, rfl⟩ := List.mem_map.1 ho
  exact Nat.le_trans (txO_size j) (by decide)
end Go.Proofs.YtbalcamjccfkdaaDoor
