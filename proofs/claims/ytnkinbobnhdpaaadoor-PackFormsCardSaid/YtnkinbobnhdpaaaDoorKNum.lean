/- numbers and texts as bytes: the plain mathematics, and the contracts of package number and of the page -/
import Derived.Lib.Varint
import Derived.Lib.VarintBits
import Derived.WalkKit
import Derived.Maps.AppendAt
import Derived.Deep.AppendLies
import Derived.Laws.IdiomStrings
import Derived.Lib.Strings
import Derived.Test.YtnkinbobnhdpaaaDoorRows
import Derived.WalkLawsBesides
import Derived.Handy
import Derived.Lib.Hide
import Derived.Deep.QuietTactic
import Derived.BigQuiet
import Derived.Lib.QuietBelow
namespace Go.Proofs.YtnkinbobnhdpaaaDoor.Nb
/- Plain -/
open Go.Lib

/-- a string's value from its bytes -/
abbrev S (l : List UInt8) : Value := .string ⟨l.toArray⟩

/-- a byte's cell -/
def u8v (b : UInt8) : Value := .int .u8 b.toNat

theorem oneInt (k : IntKind) (n : Int) : ∀ u ∈ [Value.int k n], u.oneCell' = true := ints_oneCell k [n]

/-- may a number be? -/
def okB (n : Int) : Bool := decide (0 ≤ n ∧ n ≤ 268435456)
theorem okB_yes {n : Int} (h0 : 0 ≤ n) (h1 : n ≤ 268435456) : okB n = true := by unfold okB; simp; omega
theorem okB_no {n : Int} (h : n < 0 ∨ 268435456 < n) : okB n = false := by unfold okB; simp; omega
theorem okB_of {n : Int} (h : okB n = true) : 0 ≤ n ∧ n ≤ 268435456 := by unfold okB at h; simpa using h
theorem okB_not {n : Int} (h : okB n = false) : n < 0 ∨ 268435456 < n := by unfold okB at h; simp at h; omega

theorem and127_i64 (x : Int) (h0 : 0 ≤ x) (h1 : x < 9223372036854775808) : bits .and .i64 x 127 = x % 128 :=
  bits_mask .i64 63 (by decide) (fun n a b => by rw [IntKind.wrap_i64]; omega) 7 (by decide) x h0 h1

theorem or128_i64 (y : Int) (h0 : 0 ≤ y) (h1 : y < 128) : bits .or .i64 y 128 = y + 128 :=
  bits_join_low .i64 63 (by decide) (fun n a b => by rw [IntKind.wrap_i64]; omega) 7 y 128 h0 h1 (by omega) (by decide) (by decide) (by decide)

theorem uvarint_two {x : Nat} (h : 128 ≤ x) : 2 ≤ (uvarint x).length := by
  rw [uvarint_big h, List.length_cons]; have := uvarint_pos (x / 128); omega
theorem u8v_small {x : Nat} (h : x < 128) : Value.int .u8 (x : Int) = u8v x.toUInt8 := by
  unfold u8v; congr 1; simp [UInt8.toNat_ofNat']; omega
theorem u8v_big (x : Nat) : Value.int .u8 ((x : Int) % 128 + 128) = u8v (x % 128 + 128).toUInt8 := by
  unfold u8v; congr 1; simp [UInt8.toNat_ofNat']; omega

open Go.RowKit

/-- which number bytes begin with: i bytes are read, acc is what they spell -/
def tk (i acc : Nat) : List UInt8 → Option (Nat × List UInt8)
  | [] => none
  | b :: r => if 5 ≤ i then none else if b.toNat < 128 then (if acc + b.toNat * 2 ^ (7 * i) ≤ 268435456 ∧ ¬ (b.toNat = 0 ∧ 0 < i) then some (acc + b.toNat * 2 ^ (7 * i), r) else none)
    else tk (i + 1) (acc + b.toNat % 128 * 2 ^ (7 * i)) r
/-- what number.Take tells -/
def takeV : Option (Nat × List UInt8) → Value
  | some (n, r) => .tuple #[.int .i64 n, S r, .int .i64 0]
  | none => .tuple #[.int .i64 0, S [], .int .i64 7]

/-- what the call owns stays owned where nothing that was there has turned -/
theorem owns_below {w w' : World} {base : Nat} {e : TypeId} {size : Nat} {v : Value} {n : Nat} {xs : List Value} (h : w.ownsRow base e size v n xs) (hb : Below w.heap.size w w') : w'.ownsRow base e size v n xs := by
  obtain ⟨h1, h2⟩ := h
  refine ⟨h1, ?_⟩
  rcases h2 with h2 | ⟨g, cap, cur, hv, hg, hh, r⟩
  · exact .inl h2
  · refine .inr ⟨g, cap, cur, hv, hg, ?_, r⟩
    rw [hb.block g (by by_cases hlt : g < w.heap.size; exact hlt; rw [Array.getElem?_eq_none (by omega)] at hh; cases hh)]
    exact hh

theorem alloc_le {B : Nat} {w wr : World} (h : Below B w wr) (hB : B ≤ w.heap.size) (o : Obj) : B ≤ (wr.alloc o).heap.size := by
  have := h.size; simp; omega
theorem own_ge {w : World} {base : Nat} {e : TypeId} {size : Nat} {v : Value} {n : Nat} {xs : List Value} (h : w.ownsRow base e size v n xs) : ∀ k, v.ownBlock = some k → base ≤ k := fun k hk => (h.lt k hk).1

/-- string(b), b the call's own -/
theorem conv_owned {P : Program} (w : World) (src dst e : TypeId) (base g k cap : Nat) (l : List UInt8) (hs : P.underlying src = some (.slice e)) (he : P.underlying e = some (.int .u8)) (hd : P.underlying dst = some .string)
    (h : w.ownsRow base e 1 (.slice (some ⟨g, 0, none⟩) k cap) k (l.map u8v)) :
    (convert src dst (.slice (some ⟨g, 0, none⟩) k cap)).run P w = .ok (S l) w := by
  have hl : l.length = k := by have := h.1; simpa using this
  subst hl
  refine run_convert_bytes_back w src dst e ⟨g, 0, none⟩ cap l hs he hd ?_
  intro j hj
  have := h.cellAt j (by omega)
  rw [Addr.add_lit, Nat.zero_add, this]
  simp [hj, u8v]


theorem pow7 {k : Nat} (hk : k < 5) : 2 ^ (7 * k) = 1 ∨ 2 ^ (7 * k) = 128 ∨ 2 ^ (7 * k) = 16384 ∨ 2 ^ (7 * k) = 2097152 ∨ 2 ^ (7 * k) = 268435456 := by
  have : k = 0 ∨ k = 1 ∨ k = 2 ∨ k = 3 ∨ k = 4 := by omega
  rcases this with rfl | rfl | rfl | rfl | rfl <;> decide
theorem pow7_succ (k : Nat) : 2 ^ (7 * (k + 1)) = 128 * 2 ^ (7 * k) := by
  rw [show 7 * (k + 1) = 7 * k + 7 from by omega, Nat.pow_add]; omega
theorem mul_mod_self' (c p : Nat) : c * p % p = 0 := Nat.mul_mod_left c p
theorem acc_lt {acc c k : Nat} (hk : k < 5) (hacc : acc < 2 ^ (7 * k)) : acc + c % 128 * 2 ^ (7 * k) < 2 ^ (7 * (k + 1)) := by
  rw [pow7_succ]
  have : c % 128 < 128 := Nat.mod_lt _ (by decide)
  rcases pow7 hk with h | h | h | h | h <;> rw [h] at hacc ⊢ <;> omega
theorem acc_le {acc c k : Nat} (hk : k < 5) (hacc : acc < 2 ^ (7 * k)) : acc + c % 128 * 2 ^ (7 * k) < 34359738368 := by
  have h1 := acc_lt (c := c) hk hacc
  have h2 : 2 ^ (7 * (k + 1)) ≤ 2 ^ (7 * 5) := Nat.pow_le_pow_right (by decide) (by omega)
  have h3 : 2 ^ (7 * 5) = 34359738368 := by decide
  omega
theorem natpow7 (k : Nat) : ((2 : Int) ^ (7 * k)) = ((2 ^ (7 * k) : Nat) : Int) := by rw [Int.natCast_pow]; rfl

theorem join_u64 {acc c k : Nat} (hk : k < 5) (hacc : acc < 2 ^ (7 * k)) (hc : c < 256) :
    bits .or .u64 (acc : Int) (IntKind.u64.wrap (IntKind.u64.wrap (bits .and .u8 (c : Int) 127) * 2 ^ (7 * k))) = ((acc + c % 128 * 2 ^ (7 * k) : Nat) : Int) := by
  have h1 := acc_le (c := c) hk hacc
  rw [u8_and127 _ (by omega) (by omega), natpow7, IntWalk.u64_in ((c : Int) % 128) ⟨by omega, by omega⟩]
  have e : ((c : Int) % 128) * ((2 ^ (7 * k) : Nat) : Int) = ((c % 128 * 2 ^ (7 * k) : Nat) : Int) := by rw [Int.natCast_mul]; rfl
  rw [e, IntWalk.u64_in _ ⟨by omega, by omega⟩]
  have h2 : c % 128 * 2 ^ (7 * k) < 34359738368 := by omega
  have h3 : ((c % 128 * 2 ^ (7 * k) : Nat) : Int) % (2 ^ (7 * k)) = 0 := by
    rw [natpow7, ← Int.natCast_emod, Nat.mul_mod_left]; rfl
  have h4 := bits_join_low .u64 64 (by decide) wraps_u64 (7 * k) (acc : Int) ((c % 128 * 2 ^ (7 * k) : Nat) : Int) (by omega) (by rw [natpow7]; omega) (by omega) (by omega) h3 (by omega)
  rw [h4]
  omega

theorem join_i64 {acc c k : Nat} (hk : k < 5) (hacc : acc < 2 ^ (7 * k)) (hc : c < 256) :
    bits .or .i64 (acc : Int) (wrap64 (wrap64 (bits .and .u8 (c : Int) 127) * 2 ^ (7 * k))) = ((acc + c % 128 * 2 ^ (7 * k) : Nat) : Int) := by
  have h1 := acc_le (c := c) hk hacc
  rw [u8_and127 _ (by omega) (by omega), natpow7, IntWalk.wrap64_in ((c : Int) % 128) ⟨by omega, by omega⟩]
  have e : ((c : Int) % 128) * ((2 ^ (7 * k) : Nat) : Int) = ((c % 128 * 2 ^ (7 * k) : Nat) : Int) := by rw [Int.natCast_mul]; rfl
  rw [e, IntWalk.wrap64_in _ ⟨by omega, by omega⟩]
  have h2 : c % 128 * 2 ^ (7 * k) < 34359738368 := by omega
  have h3 : ((c % 128 * 2 ^ (7 * k) : Nat) : Int) % (2 ^ (7 * k)) = 0 := by
    rw [natpow7, ← Int.natCast_emod, Nat.mul_mod_left]; rfl
  have h4 := bits_join_low .i64 63 (by decide) (fun n a b => by rw [IntKind.wrap_i64]; omega) (7 * k) (acc : Int) ((c % 128 * 2 ^ (7 * k) : Nat) : Int) (by omega) (by rw [natpow7]; omega) (by omega) (by omega) h3 (by omega)
  rw [h4]
  omega

theorem tk_more {k acc : Nat} {b : UInt8} {r : List UInt8} (hk : k < 5) (hb : 128 ≤ b.toNat) : tk k acc (b :: r) = tk (k + 1) (acc + b.toNat % 128 * 2 ^ (7 * k)) r := by
  rw [tk, if_neg (by omega), if_neg (by omega)]
theorem tk_done {k acc : Nat} {b : UInt8} {r : List UInt8} (hk : k < 5) (hb : b.toNat < 128) (h1 : acc + b.toNat % 128 * 2 ^ (7 * k) ≤ 268435456) (h2 : ¬ (b.toNat = 0 ∧ 0 < k)) : tk k acc (b :: r) = some (acc + b.toNat % 128 * 2 ^ (7 * k), r) := by
  rw [Nat.mod_eq_of_lt hb] at h1 ⊢
  rw [tk, if_neg (by omega), if_pos hb, if_pos ⟨h1, h2⟩]
theorem tk_bad {k acc : Nat} {b : UInt8} {r : List UInt8} (hk : k < 5) (hb : b.toNat < 128) (h : 268435456 < acc + b.toNat % 128 * 2 ^ (7 * k) ∨ (b.toNat = 0 ∧ 0 < k)) : tk k acc (b :: r) = none := by
  rw [Nat.mod_eq_of_lt hb] at h
  rw [tk, if_neg (by omega), if_pos hb, if_neg (by omega)]
theorem tk_end {k acc : Nat} {l : List UInt8} (h : l = [] ∨ 5 ≤ k) : tk k acc l = none := by
  cases l with
  | nil => rfl
  | cons b r => rcases h with h | h
                · cases h
                · rw [tk, if_pos h]

theorem S_tail (s : ByteArray) (k : Nat) : Value.string (s.extract k s.size) = S (s.data.toList.drop k) := by
  unfold S; rw [Lib.extract_eq, List.take_of_length_le]; simp
theorem S_head (s : ByteArray) (k : Nat) : Value.string (s.extract 0 k) = S (s.data.toList.take k) := by
  unfold S; rw [Lib.extract_eq]; simp
theorem drop_byte (s : ByteArray) (k : Nat) (h : k < s.size) : s.data.toList.drop k = s[k] :: s.data.toList.drop (k + 1) := by
  rw [List.drop_eq_getElem_cons (by simpa using h)]; rfl


/-- what the page's own Take tells -/
def rtakeV : Option (Nat × List UInt8) → Value
  | some (n, r) => .tuple #[.int .i64 n, S r, .bool true]
  | none => .tuple #[.int .i64 0, S [], .bool false]

/-- what bytes spell -/
def val : List UInt8 → Nat
  | [] => 0
  | b :: r => b.toNat % 128 + 128 * val r
theorem val_snoc (l : List UInt8) (b : UInt8) : val (l ++ [b]) = val l + b.toNat % 128 * 2 ^ (7 * l.length) := by
  induction l with
  | nil => simp [val]
  | cons a l ih =>
    rw [List.cons_append, val, ih, val, List.length_cons, pow7_succ, Nat.mul_add, Nat.mul_left_comm]; omega
theorem uvarint_zero : ∀ (x : Nat) (m : List UInt8), uvarint x = m ++ [0] → m = [] ∧ x = 0 := by
  intro x
  induction x using Nat.strongRecOn with
  | _ x ih =>
    intro m h
    by_cases hx : x < 128
    · rw [uvarint_small hx] at h
      cases m with
      | nil =>
        refine ⟨rfl, ?_⟩
        simp at h
        have := congrArg UInt8.toNat h
        simp [UInt8.toNat_ofNat'] at this
        omega
      | cons a m => simp at h
    · rw [uvarint_big (by omega)] at h
      cases m with
      | nil => have h1 := congrArg List.length h; have h2 := uvarint_pos (x / 128); rw [List.length_cons, List.nil_append, List.length_singleton] at h1; omega
      | cons a m =>
        rw [List.cons_append] at h
        have := (ih (x / 128) (by omega) m (List.cons.inj h).2).2
        omega
theorem val_pos (l : List UInt8) (b : UInt8) (hb : b.toNat < 128) (h0 : b.toNat ≠ 0) : 1 ≤ val (l ++ [b]) := by
  induction l with
  | nil => simp [val]; omega
  | cons a l ih => rw [List.cons_append, val]; omega
theorem uvarint_val : ∀ (l : List UInt8) (b : UInt8), (∀ a ∈ l, 128 ≤ a.toNat) → b.toNat < 128 → (b.toNat ≠ 0 ∨ l = []) → uvarint (val (l ++ [b])) = l ++ [b] := by
  intro l
  induction l with
  | nil => intro b _ hb _; rw [List.nil_append, val, val, Nat.mod_eq_of_lt hb, Nat.mul_zero, Nat.add_zero, uvarint_small hb]; simp
  | cons a l ih =>
    intro b hl hb h0
    have h0' : b.toNat ≠ 0 := by rcases h0 with h | h; exact h; cases h
    have hp := val_pos l b hb h0'
    have ha := hl a (by simp)
    have ha2 := a.toNat_lt
    rw [List.cons_append, val, uvarint_big (by omega)]
    have e1 : (a.toNat % 128 + 128 * val (l ++ [b])) / 128 = val (l ++ [b]) := by omega
    have e2 : (a.toNat % 128 + 128 * val (l ++ [b])) % 128 + 128 = a.toNat := by omega
    rw [e1, e2, ih b (fun x hx => hl x (by simp [hx])) hb (.inl h0')]
    simp
theorem uvarint_ne (l : List UInt8) (b : UInt8) (h0 : b.toNat = 0) (hl : l ≠ []) (x : Nat) : uvarint x ≠ l ++ [b] := by
  intro h
  have : b = 0 := UInt8.toNat_inj.1 (by rw [h0]; rfl)
  subst this
  exact hl (uvarint_zero x l h).1


theorem take_byte (s : ByteArray) (k : Nat) (h : k < s.size) : s.data.toList.take (k + 1) = s.data.toList.take k ++ [s[k]] := by
  rw [List.take_succ_eq_append_getElem (by simpa using h)]; rfl
theorem val_step (s : ByteArray) (k acc : Nat) (h : k < s.size) (hv : acc = val (s.data.toList.take k)) : acc + s[k].toNat % 128 * 2 ^ (7 * k) = val (s.data.toList.take (k + 1)) := by
  rw [take_byte s k h, val_snoc, ← hv]; simp; rw [Nat.min_eq_left (Nat.le_of_lt h)]
theorem all_step (s : ByteArray) (k : Nat) (h : k < s.size) (ha : ∀ b ∈ s.data.toList.take k, 128 ≤ b.toNat) (hb : 128 ≤ s[k].toNat) : ∀ b ∈ s.data.toList.take (k + 1), 128 ≤ b.toNat := by
  rw [take_byte s k h]; intro b hb'; rcases List.mem_append.1 hb' with h1 | h1
  · exact ha b h1
  · simp at h1; subst h1; exact hb
/-- the page's test: the bytes are those that Put tells, unless the last is 0 behind others -/
theorem put_back (s : ByteArray) (k acc : Nat) (h : k < s.size) (hv : acc = val (s.data.toList.take k)) (ha : ∀ b ∈ s.data.toList.take k, 128 ≤ b.toNat) (hb : s[k].toNat < 128) (h0 : ¬ (s[k].toNat = 0 ∧ 0 < k)) :
    uvarint (acc + s[k].toNat % 128 * 2 ^ (7 * k)) = s.data.toList.take (k + 1) := by
  rw [val_step s k acc h hv, take_byte s k h]
  refine uvarint_val _ _ ha hb ?_
  by_cases hk : 0 < k
  · left; omega
  · right; have : k = 0 := by omega
    subst this; simp
theorem put_off (s : ByteArray) (k x : Nat) (h : k < s.size) (h0 : s[k].toNat = 0 ∧ 0 < k) : uvarint x ≠ s.data.toList.take (k + 1) := by
  rw [take_byte s k h]
  refine uvarint_ne _ _ h0.1 ?_ x
  intro hn
  have h1 := congrArg List.length hn
  rw [List.length_take, Array.length_toList] at h1
  have hz : s.data.size = s.size := rfl
  rw [hz, List.length_nil] at h1
  omega


/-- the text that bytes begin with, what is behind -/
def tkText (l : List UInt8) : Option (List UInt8 × List UInt8) :=
  match tk 0 0 l with
  | some (n, r) => if n ≤ r.length then some (r.take n, r.drop n) else none
  | none => none
theorem tkText_none {l : List UInt8} (h : tk 0 0 l = none) : tkText l = none := by unfold tkText; rw [h]
theorem tkText_some {l r : List UInt8} {n : Nat} (h : tk 0 0 l = some (n, r)) (hn : n ≤ r.length) : tkText l = some (r.take n, r.drop n) := by unfold tkText; rw [h]; simp [hn]
theorem tkText_short {l r : List UInt8} {n : Nat} (h : tk 0 0 l = some (n, r)) (hn : ¬ n ≤ r.length) : tkText l = none := by unfold tkText; rw [h]; simp [hn]
def ttV : Option (List UInt8 × List UInt8) → Value
  | some (t, r) => .tuple #[S t, S r, .int .i64 0]
  | none => .tuple #[S [], S [], .int .i64 7]
def rttV : Option (List UInt8 × List UInt8) → Value
  | some (t, r) => .tuple #[S t, S r, .bool true]
  | none => .tuple #[S [], S [], .bool false]

theorem tk_len : ∀ (l : List UInt8) (i acc n : Nat) (r : List UInt8), tk i acc l = some (n, r) → n ≤ 268435456 ∧ r.length < l.length := by
  intro l
  induction l with
  | nil => intro i acc n r h; cases h
  | cons b l ih =>
    intro i acc n r h
    rw [tk] at h
    split at h
    · cases h
    · split at h
      · split at h
        · rename_i h1
          simp only [Option.some.injEq, Prod.mk.injEq] at h
          obtain ⟨rfl, rfl⟩ := h
          exact ⟨h1.1, by simp⟩
        · cases h
      · have := ih _ _ _ _ h
        exact ⟨this.1, by simp; omega⟩


theorem S_cut (r : List UInt8) (n : Nat) (v : Value) : Ending.returned (.tuple #[.string ((⟨r.toArray⟩ : ByteArray).extract 0 n), .string ((⟨r.toArray⟩ : ByteArray).extract n r.length), v]) = .returned (.tuple #[S (r.take n), S (r.drop n), v]) := by
  have h1 := S_head ⟨r.toArray⟩ n
  have h2 := S_tail ⟨r.toArray⟩ n
  have e : (⟨r.toArray⟩ : ByteArray).size = r.length := rfl
  rw [e] at h2
  rw [h1, h2]
theorem S_join (l : List UInt8) (s : ByteArray) : Value.string ((⟨l.toArray⟩ : ByteArray) ++ s) = S (l ++ s.data.toList) := by
  congr 1


theorem pow_one_le (i : Nat) : 1 ≤ 2 ^ (7 * i) := Nat.one_le_two_pow
theorem tk_uvarint : ∀ (x i acc : Nat) (r : List UInt8), acc + x * 2 ^ (7 * i) ≤ 268435456 → (x ≠ 0 ∨ i = 0) → i + (uvarint x).length ≤ 5 → tk i acc (uvarint x ++ r) = some (acc + x * 2 ^ (7 * i), r) := by
  intro x
  induction x using Nat.strongRecOn with
  | _ x ih =>
    intro i acc r h1 h2 h3
    by_cases hx : x < 128
    · rw [uvarint_small hx] at h3 ⊢
      have e : x.toUInt8.toNat = x := by simp [UInt8.toNat_ofNat']; omega
      rw [List.singleton_append, tk_done (by simp at h3; omega) (by omega) (by rw [e, Nat.mod_eq_of_lt hx]; exact h1) (by omega), e, Nat.mod_eq_of_lt hx]
    · rw [uvarint_big (by omega)] at h3 ⊢
      have e : (x % 128 + 128).toUInt8.toNat = x % 128 + 128 := by simp [UInt8.toNat_ofNat']; omega
      have e2 : (x % 128 + 128) % 128 = x % 128 := by omega
      have hm : x * 2 ^ (7 * i) = x % 128 * 2 ^ (7 * i) + x / 128 * 2 ^ (7 * (i + 1)) := by
        rw [pow7_succ, ← Nat.mul_assoc, ← Nat.add_mul]; congr 1; omega
      rw [List.length_cons] at h3
      rw [List.cons_append, tk_more (by omega) (by omega), e, e2, ih (x / 128) (by omega) (i + 1) _ r (by omega) (.inl (by omega)) (by omega)]
      congr 2; omega
theorem tk_put {n : Nat} (h : n ≤ 268435456) (r : List UInt8) : tk 0 0 (uvarint n ++ r) = some (n, r) := by
  have := tk_uvarint n 0 0 r (by simpa using h) (.inr rfl) (by have := uvarint_length 4 n (by simp; omega); omega)
  simpa using this
theorem tkText_put {l : List UInt8} (h : l.length ≤ 268435456) (r : List UInt8) : tkText (uvarint l.length ++ l ++ r) = some (l, r) := by
  rw [List.append_assoc, tkText_some (tk_put h _) (by simp)]; simp
/-- bytes that all go on are no number -/
theorem tk_open : ∀ (l : List UInt8) (i acc : Nat), (∀ b ∈ l, 128 ≤ b.toNat) → tk i acc l = none := by
  intro l
  induction l with
  | nil => intros; rfl
  | cons b l ih =>
    intro i acc h
    rw [tk]
    split
    · rfl
    · rw [if_neg (by have := h b (by simp); omega)]
      exact ih _ _ (fun x hx => h x (by simp [hx]))
theorem uvarint_init : ∀ (x k : Nat), k < (uvarint x).length → ∀ b ∈ (uvarint x).take k, 128 ≤ b.toNat := by
  intro x
  induction x using Nat.strongRecOn with
  | _ x ih =>
    intro k hk b hb
    by_cases hx : x < 128
    · rw [uvarint_small hx] at hk hb
      simp at hk; subst hk; simp at hb
    · rw [uvarint_big (by omega)] at hk hb
      cases k with
      | zero => simp at hb
      | succ k =>
        rw [List.take_succ_cons] at hb
        rcases List.mem_cons.1 hb with h | h
        · subst h
          simp [UInt8.toNat_ofNat']; omega
        · exact ih (x / 128) (by omega) k (by simpa using hk) b h
theorem tkText_torn {l : List UInt8} (h : l.length ≤ 268435456) (k : Nat) (hk : k < (uvarint l.length ++ l).length) : tkText ((uvarint l.length ++ l).take k) = none := by
  by_cases hk1 : k < (uvarint l.length).length
  · rw [List.take_append_of_le_length (by omega)]
    exact tkText_none (tk_open _ _ _ (uvarint_init _ _ hk1))
  · rw [List.take_append, List.take_of_length_le (by omega)]
    rw [List.length_append] at hk
    exact tkText_short (tk_put h _) (by simp; omega)


theorem join_list (s t : ByteArray) : (s ++ t).data.toList = s.data.toList ++ t.data.toList := by simp
theorem joined_list (l : List UInt8) (t : ByteArray) : ((⟨l.toArray⟩ : ByteArray) ++ t).data.toList = l ++ t.data.toList := by simp
theorem joined_size (l : List UInt8) (t : ByteArray) : ((⟨l.toArray⟩ : ByteArray) ++ t).size = l.length + t.size := by simp; rfl
theorem len_size (s : ByteArray) : s.data.toList.length = s.size := by simp
theorem cut_list (l : List UInt8) (k : Nat) : ((⟨l.toArray⟩ : ByteArray).extract 0 k).data.toList = l.take k := by rw [extract_data]; simp


theorem conv_one {P : Program} (w : World) (src dst e : TypeId) (x : Int) (hs : P.underlying src = some (.slice e)) (he : P.underlying e = some (.int .u8)) (hd : P.underlying dst = some .string) (h0 : 0 ≤ x) (h1 : x < 256) :
    (convert src dst (.slice (some ⟨w.heap.size, 0, none⟩) 1 1)).run P (w.alloc (.cells #[.int .u8 x] e)) = .ok (S [UInt8.ofNat x.toNat]) (w.alloc (.cells #[.int .u8 x] e)) := by
  refine run_convert_bytes_back (w.alloc (.cells #[.int .u8 x] e)) src dst e ⟨w.heap.size, 0, none⟩ 1 [UInt8.ofNat x.toNat] hs he hd ?_
  intro j hj
  have hj0 : j = 0 := by simpa using hj
  subst hj0
  have ex : ((UInt8.ofNat x.toNat).toNat : Int) = x := by simp [UInt8.toNat_ofNat']; omega
  simp only [List.getElem_cons_zero, ex]
  simp [Addr.add]


/- CBase -/
open Go.RowKit Go.Lib

theorem Tryd.info5 : (Tryd.prog.info? 5).map (fun i => (i.zero, i.size, i.bytes)) = some (some (.int .u8 0), 1, 1) := by kernel_rfl


/- CPut -/
open Go.RowKit Go.Lib

theorem mayBe_yes (n : Int) (w : World) (h : okB n = true) : Calls Tryd.prog 124 #[.int .i64 n] w fun e w' => e = .returned (.bool true) ∧ w = w' := by
  obtain ⟨h0, h1⟩ := okB_of h
  go_enter Tryd.func124, Tryd.ntmps124
  go_wp2
  go_ret
  exact ⟨rfl, rfl⟩

theorem mayBe_no (n : Int) (w : World) (h : okB n = false) : Calls Tryd.prog 124 #[.int .i64 n] w fun e w' => e = .returned (.bool false) ∧ w = w' := by
  have h0 := okB_not h
  by_cases h1 : 0 ≤ n
  · have h2 : decide (n ≤ 268435456) = false := by simp; omega
    go_enter Tryd.func124, Tryd.ntmps124
    go_wp2
    go_ret
    exact ⟨rfl, rfl⟩
  · have h2 : n < 0 := by omega
    go_enter Tryd.func124, Tryd.ntmps124
    go_wp2
    go_ret
    exact ⟨rfl, rfl⟩

set_option maxRecDepth 100000 in
set_option maxHeartbeats 1000000 in
theorem Put_ok (n : Int) (w : World) (h : okB n = true) : Calls Tryd.prog 109 #[.int .i64 n] w fun e w' => e = .returned (.tuple #[S (uvarint n.toNat), .int .i64 0]) ∧ Below w.heap.size w w' := by
  obtain ⟨h0, h1⟩ := okB_of h
  obtain ⟨i0, hi, hz0, hz1, hz2⟩ := info_parts Tryd.info5
  go_enter Tryd.func109, Tryd.ntmps109
  go_wp2_with fail
  refine (mayBe_yes _ _ h).mono ?_
  rintro e w' ⟨rfl, rfl⟩
  go_wp2_with (first | (at_make; refine wpList_make_own _ rfl _ _ 67 rfl w.heap.size 5 i0 (.int .u8 0) 1 Tryd.underlying67 hi hz0 hz1 _ _ _ 5 rfl rfl rfl (by rw [hz2]; decide) (by decide) (Nat.le_refl _) ?_) | fail)
  intro w1 hown hgrow
  obtain ⟨N, rfl⟩ := Int.eq_ofNat_of_zero_le h0
  have hb1 : Below w.heap.size w w1 := (Below.refl _ _).grown hgrow (Nat.le_refl _) (by simp)
  have hlen : (uvarint N).length ≤ 5 := uvarint_length 4 N (by simp; omega)
  clear h hgrow
  go_wp2
  go_loopw [0, 4] (fun v b wr => ∃ (k cur : Nat) (pre : List UInt8), cur ≤ N ∧ pre.length = k ∧ v = .int .i64 cur ∧ b = .slice (some ⟨w.heap.size, 0, none⟩) k 5 ∧ wr.ownsRow w.heap.size 5 1 (.slice (some ⟨w.heap.size, 0, none⟩) k 5) k (pre.map u8v) ∧ pre ++ uvarint cur = uvarint N ∧ Below w.heap.size w wr) (fun v _ _ => (intOf v).toNat)
  case atStart => exact ⟨0, N, [], Nat.le_refl _, rfl, rfl, rfl, hown, rfl, hb1⟩
  case round =>
    obtain ⟨k, cur, pre, hcN, hk, rfl, rfl, hown, hpre, hbel⟩ := hrel
    have hk5 : k + (uvarint cur).length ≤ 5 := by rw [← hpre] at hlen; simp at hlen; omega
    have Hpre := Lib.hid hpre
    clear hpre
    have Hk := Lib.hid hk
    clear hk
    by_cases hc : cur < 128
    · have hu := uvarint_pos cur
      go_wp2_with (first | (at_builtin; (refine wpList_append_fits _ rfl _ _ 67 rfl w.heap.size 5 i0 1 Tryd.underlying67 hi hz1 w.heap.size k 5 _ rfl (hown.alloc _) ⟨wr.heap.size, 0, none⟩ 1 1 [.int .u8 cur] rfl rfl (cell_one_new _ _ _) (oneInt _ _) (by omega) ?_)) | fail)
      intro w2 hown2 hgrow2
      rw [u8v_small hc, ← List.map_singleton, ← List.map_append] at hown2
      have hb2 : Below w.heap.size w w2 := (hbel.alloc hbel.size _).grown hgrow2 (by have := hbel.size; simp; omega) (by simp)
      have hcv := conv_owned w2 67 9 5 _ _ _ _ _ Tryd.underlying67 Tryd.underlying5 Tryd.underlying9 hown2
      clear hown hgrow2 hbel
      go_wp2
      go_ret2
      refine ⟨?_, hb2⟩
      rw [← uvarint_small hc, Hpre.out]
      rfl
    · have e1 : bits .and .i64 (cur : Int) 127 = (cur : Int) % 128 := and127_i64 _ (by omega) (by omega)
      have e3 : ((cur : Int) % 128 + 128) % 256 = (cur : Int) % 128 + 128 := by omega
      have e2 : bits .or .i64 ((cur : Int) % 128) 128 = (cur : Int) % 128 + 128 := or128_i64 _ (by omega) (by omega)
      have hu := uvarint_two (x := cur) (by omega)
      go_wp2_with (first | (at_builtin; (refine wpList_append_fits _ rfl _ _ 67 rfl w.heap.size 5 i0 1 Tryd.underlying67 hi hz1 w.heap.size k 5 _ rfl (hown.alloc _) ⟨wr.heap.size, 0, none⟩ 1 1 [.int .u8 ((cur : Int) % 128 + 128)] rfl rfl (cell_one_new _ _ _) (oneInt _ _) (by omega) ?_)) | fail)
      intro w2 hown2 hgrow2
      rw [u8v_big, ← List.map_singleton, ← List.map_append] at hown2
      have hb2 : Below w.heap.size w w2 := (hbel.alloc hbel.size _).grown hgrow2 (by have := hbel.size; simp; omega) (by simp)
      clear e1 e2 e3 hown hgrow2 hbel
      go_wp2
      go_roundw
      case rel => exact ⟨k + 1, cur / 128, pre ++ [(cur % 128 + 128).toUInt8], by omega, by simp [Hk.out], by go_num, rfl, hown2, by rw [← Hpre.out, uvarint_big (x := cur) (by omega)]; simp, hb2⟩
      case measure => simp [intOf]; omega

theorem Put_bad (n : Int) (w : World) (h : okB n = false) : Calls Tryd.prog 109 #[.int .i64 n] w fun e w' => e = .returned (.tuple #[S [], .int .i64 1]) ∧ w = w' := by
  go_enter Tryd.func109, Tryd.ntmps109
  go_wp2_with fail
  refine (mayBe_no _ _ h).mono ?_
  rintro e w' ⟨rfl, rfl⟩
  go_wp2
  go_ret2
  exact ⟨rfl, rfl⟩

theorem Put_nat (n : Nat) (w : World) (h1 : n ≤ 268435456) : Calls Tryd.prog 109 #[.int .i64 n] w fun e w' => e = .returned (.tuple #[S (uvarint n), .int .i64 0]) ∧ Below w.heap.size w w' := by
  have := Put_ok n w (okB_yes (by omega) (by omega))
  rwa [Int.toNat_natCast] at this


/- CTake -/
open Go.RowKit Go.Lib

set_option maxRecDepth 100000 in
set_option maxHeartbeats 1000000 in
theorem Take_any (s : ByteArray) (w : World) (hs : s.size ≤ maxLen) : Calls Tryd.prog 111 #[.string s] w fun e w' => e = .returned (takeV (tk 0 0 s.data.toList)) ∧ Below w.heap.size w w' := by
  unfold maxLen at hs
  go_enter Tryd.func111, Tryd.ntmps111
  go_wp2
  all_goals
    go_loopw [5, 11] (fun v i wr => ∃ (k acc : Nat), k ≤ 5 ∧ k ≤ s.size ∧ v = .int .u64 acc ∧ i = .int .i64 k ∧ acc < 2 ^ (7 * k) ∧ tk 0 0 s.data.toList = tk k acc (s.data.toList.drop k) ∧ Below w.heap.size w wr) (fun _ i _ => 5 - (intOf i).toNat)
    case atStart => exact ⟨0, 0, by omega, by omega, rfl, rfl, by decide, rfl, Below.refl _ _⟩
    case round =>
      obtain ⟨k, acc, hk5, hks, rfl, rfl, hacc, hd, hbel⟩ := hrel
      have HD := Lib.hid hd
      clear hd
      by_cases hlt : k < s.size ∧ k < 5
      · obtain ⟨h1, h2⟩ := hlt
        have HL := Lib.hid (drop_byte s k h1)
        have hc256 := s[k].toNat_lt
        obtain ⟨c, hsk⟩ : ∃ c, s[k].toNat = c := ⟨_, rfl⟩
        rw [hsk] at hc256
        have hX := join_u64 (acc := acc) (c := c) h2 hacc (by omega)
        have hXl := acc_le (c := c) h2 hacc
        have HXn := Lib.hid (acc_lt (c := c) h2 hacc)
        clear hacc
        obtain ⟨X, hXe⟩ : ∃ X, acc + c % 128 * 2 ^ (7 * k) = X := ⟨_, rfl⟩
        rw [hXe] at hX hXl HXn
        have HX := Lib.hid hXe
        clear hXe
        by_cases hc : 128 ≤ c
        · go_wp2
          have hk2 : tk 0 0 s.data.toList = tk (k + 1) X (s.data.toList.drop (k + 1)) := by rw [HD.out, HL.out, tk_more h2 (by omega), hsk, HX.out]
          go_roundw
          case rel => exact ⟨k + 1, X, by omega, by omega, rfl, by go_num, HXn.out, hk2, hbel⟩
          case measure => simp [intOf]; omega
        · have hcl : c < 128 := by omega
          by_cases hX8 : X ≤ 268435456
          · by_cases hc0 : c = 0 ∧ 0 < k
            · obtain ⟨hc1, hk1⟩ := hc0
              have hc1' : ((c : Int) == 0) = true := by simp [hc1]
              have hr : takeV (tk 0 0 s.data.toList) = takeV none := by rw [HD.out, HL.out, tk_bad h2 (by omega) (.inr ⟨by omega, hk1⟩)]
              have HR := Lib.hid hr
              clear hr hc1
              go_wp2
              go_ret3
              exact ⟨by rw [HR.out]; rfl, hbel⟩
            · have hr : takeV (tk 0 0 s.data.toList) = takeV (some (X, s.data.toList.drop (k + 1))) := by
                rw [HD.out, HL.out, tk_done h2 (by omega) (by rw [hsk, HX.out]; exact hX8) (by omega), hsk, HX.out]
              have HR := Lib.hid hr
              clear hr
              have hw : IntKind.i64.wrap (X : Int) = (X : Int) := IntWalk.i64_in _ ⟨by omega, by omega⟩
              have ht := S_tail s (k + 1)
              have HT := Lib.hid ht
              clear ht
              by_cases hcz : c = 0
              · have hk0 : k = 0 := by omega
                have hcz' : ((c : Int) == 0) = true := by simp [hcz]
                have hkz : decide (0 < k) = false := by simp [hk0]
                clear hcz hk0 hc0
                go_wp2
                go_quiet (fail)
                go_wp2
                go_ret3
                refine ⟨?_, ?_⟩
                · rw [HR.out]; show _ = Ending.returned (.tuple #[_, S _, _]); rw [← HT.out]; rfl
                · exact below_drewN hbel _
              · have hcz' : ((c : Int) == 0) = false := by simp [hcz]
                clear hcz hc0
                go_wp2
                go_quiet (fail)
                go_wp2
                go_ret3
                refine ⟨?_, ?_⟩
                · rw [HR.out]; show _ = Ending.returned (.tuple #[_, S _, _]); rw [← HT.out]; rfl
                · exact below_drewN hbel _
          · have hX8' : 268435456 < X := by omega
            have hr : takeV (tk 0 0 s.data.toList) = takeV none := by rw [HD.out, HL.out, tk_bad h2 (by omega) (.inl (by rw [hsk, HX.out]; exact hX8'))]
            have HR := Lib.hid hr
            clear hr
            go_wp2
            go_ret3
            exact ⟨by rw [HR.out]; rfl, hbel⟩
      · have hr : takeV (tk 0 0 s.data.toList) = takeV none := by
          rw [HD.out, tk_end]
          by_cases h5 : 5 ≤ k
          · exact .inr h5
          · left; apply List.drop_eq_nil_of_le; simp; omega
        have HR := Lib.hid hr
        clear hr
        go_wp2
        go_ret3
        exact ⟨by rw [HR.out]; rfl, hbel⟩


/- CText -/
open Go.RowKit Go.Lib

theorem Text_long (s : ByteArray) (w : World) (hs : s.size ≤ maxLen) (h : 268435456 < s.size) : Calls Tryd.prog 81 #[.string s] w fun e w' => e = .returned (S []) ∧ w = w' := by
  unfold maxLen at hs
  go_enter Tryd.func81, Tryd.ntmps81
  go_wp2_with fail
  refine (Put_bad _ _ (okB_no (by omega))).mono ?_
  rintro e w1 ⟨rfl, rfl⟩
  go_wp2
  go_ret
  exact ⟨rfl, rfl⟩

theorem Text_any (s : ByteArray) (w : World) (h : s.size ≤ 268435456) : Calls Tryd.prog 81 #[.string s] w fun e w' => e = .returned (S (uvarint s.size ++ s.data.toList)) ∧ Below w.heap.size w w' := by
  have hu : (uvarint s.size).length ≤ 5 := uvarint_length 4 s.size (by simp; omega)
  have HJ := Lib.hid (S_join (uvarint s.size) s)
  go_enter Tryd.func81, Tryd.ntmps81
  go_wp2_with fail
  refine (Put_nat _ _ h).mono ?_
  rintro e w1 ⟨rfl, hb⟩
  go_wp2
  go_ret
  refine ⟨?_, hb⟩
  rw [← HJ.out]
  rfl


/- CTakeText -/
open Go.RowKit Go.Lib

set_option maxRecDepth 100000 in
theorem TakeText_any (s : ByteArray) (w : World) (hs : s.size ≤ maxLen) : Calls Tryd.prog 112 #[.string s] w fun e w' => e = .returned (ttV (tkText s.data.toList)) ∧ Below w.heap.size w w' := by
  have hT := Take_any s w hs
  unfold maxLen at hs
  cases hk : tk 0 0 s.data.toList with
  | none =>
    rw [hk] at hT
    have HR := Lib.hid (tkText_none hk)
    have HT := Lib.hid hT
    clear hk hT
    go_enter Tryd.func112, Tryd.ntmps112
    go_wp2_with fail
    refine HT.out.mono ?_
    rintro e w1 ⟨rfl, hb⟩
    simp only [takeV]
    go_wp2
    go_ret3
    exact ⟨by rw [HR.out]; rfl, hb⟩
  | some p =>
    obtain ⟨n, r⟩ := p
    rw [hk] at hT
    have hl := tk_len _ _ _ _ _ hk
    have hz : s.data.toList.length = s.size := by simp
    rw [hz] at hl
    clear hz
    have HK := Lib.hid hk
    have HT := Lib.hid hT
    clear hk hT
    by_cases hn : n ≤ r.length
    · have HR := Lib.hid (tkText_some HK.out hn)
      have hn' : decide ((r.length : Int) < (n : Int)) = false := by simp; omega
      go_enter Tryd.func112, Tryd.ntmps112
      go_wp2_with fail
      refine HT.out.mono ?_
      rintro e w1 ⟨rfl, hb⟩
      simp only [takeV]
      go_wp2
      go_quiet (fail)
      go_wp2
      go_ret3
      refine ⟨?_, below_drewN hb _⟩
      rw [HR.out]
      exact S_cut r n _
    · have HR := Lib.hid (tkText_short HK.out hn)
      have hn' : decide ((r.length : Int) < (n : Int)) = true := by simp; omega
      go_enter Tryd.func112, Tryd.ntmps112
      go_wp2_with fail
      refine HT.out.mono ?_
      rintro e w1 ⟨rfl, hb⟩
      simp only [takeV]
      go_wp2
      go_ret3
      exact ⟨by rw [HR.out]; rfl, hb⟩


/- CRPut -/
open Go.RowKit Go.Lib

set_option maxRecDepth 100000 in
set_option maxHeartbeats 400000 in
theorem rPut_ok (n : Int) (w : World) (h0 : 0 ≤ n) (h1 : n ≤ 268435456) : Calls Tryd.prog 56 #[.int .i64 n] w fun e w' => e = .returned (S (uvarint n.toNat)) ∧ Below w.heap.size w w' := by
  obtain ⟨i0, hi, hz0, hz1, hz2⟩ := info_parts Tryd.info5
  obtain ⟨N, rfl⟩ := Int.eq_ofNat_of_zero_le h0
  have hlen : (uvarint N).length ≤ 5 := uvarint_length 4 N (by simp; omega)
  go_enter Tryd.func56, Tryd.ntmps56
  go_wp2
  go_loopw [0, 3] (fun v b wr => ∃ (k cur : Nat) (pre : List UInt8), cur ≤ N ∧ pre.length = k ∧ v = .int .i64 cur ∧ wr.ownsRow w.heap.size 5 1 b k (pre.map u8v) ∧ pre ++ uvarint cur = uvarint N ∧ Below w.heap.size w wr) (fun v _ _ => (intOf v).toNat)
  case atStart => exact ⟨0, N, [], Nat.le_refl _, rfl, rfl, World.ownsRow_nil _ _ _ _, rfl, Below.refl _ _⟩
  case round =>
    obtain ⟨k, cur, pre, hcN, hk, rfl, hown, hpre, hbel⟩ := hrel
    have hk5 : k + (uvarint cur).length ≤ 5 := by rw [← hpre] at hlen; simp at hlen; omega
    have Hpre := Lib.hid hpre
    clear hpre
    have Hk := Lib.hid hk
    clear hk
    have c1 : k ≤ 4 := by have := uvarint_pos cur; omega
    have c2 : k + 1 ≤ maxLen := by unfold maxLen; omega
    have c3 : (k + 1) * 1 ≤ 140737488355328 := by omega
    by_cases hc : cur < 128
    · go_wp2_with (first | (at_builtin; refine wpList_append_own _ rfl _ _ 67 rfl w.heap.size 5 i0 (.int .u8 0) 1 1 Tryd.underlying67 hi hz0 hz1 hz2 rfl (by decide) _ _ _ rfl (hown.alloc _) ⟨wr.heap.size, 0, none⟩ 1 1 [.int .u8 cur] rfl rfl (cell_one_new _ _ _) (oneInt _ _) c2 c3 (alloc_le hbel (Nat.le_refl _) _) ?_) | fail)
      intro v2 w2 hown2 hgrow2 _
      rw [u8v_small hc, ← List.map_singleton, ← List.map_append] at hown2
      have hb2 : Below w.heap.size w w2 := (hbel.alloc hbel.size _).grown hgrow2 (alloc_le hbel (Nat.le_refl _) _) (own_ge hown)
      obtain ⟨g, cap, hv⟩ : ∃ g cap, v2 = .slice (some ⟨g, 0, none⟩) (k + 1) cap := by
        obtain ⟨g, cap, hv, _⟩ := hown2.form (by omega)
        exact ⟨g, cap, hv⟩
      subst hv
      have hcv := conv_owned w2 67 9 5 _ _ _ _ _ Tryd.underlying67 Tryd.underlying5 Tryd.underlying9 hown2
      clear hown hgrow2 hbel
      go_wp2
      go_ret
      refine ⟨?_, hb2⟩
      rw [← uvarint_small hc, Hpre.out]
      rfl
    · have e1 : bits .and .i64 (cur : Int) 127 = (cur : Int) % 128 := and127_i64 _ (by omega) (by omega)
      have e3 : ((cur : Int) % 128 + 128) % 256 = (cur : Int) % 128 + 128 := by omega
      have e2 : bits .or .i64 ((cur : Int) % 128) 128 = (cur : Int) % 128 + 128 := or128_i64 _ (by omega) (by omega)
      go_wp2_with (first | (at_builtin; refine wpList_append_own _ rfl _ _ 67 rfl w.heap.size 5 i0 (.int .u8 0) 1 1 Tryd.underlying67 hi hz0 hz1 hz2 rfl (by decide) _ _ _ rfl (hown.alloc _) ⟨wr.heap.size, 0, none⟩ 1 1 [.int .u8 ((cur : Int) % 128 + 128)] rfl rfl (cell_one_new _ _ _) (oneInt _ _) c2 c3 (alloc_le hbel (Nat.le_refl _) _) ?_) | fail)
      intro v2 w2 hown2 hgrow2 _
      rw [u8v_big, ← List.map_singleton, ← List.map_append] at hown2
      have hb2 : Below w.heap.size w w2 := (hbel.alloc hbel.size _).grown hgrow2 (alloc_le hbel (Nat.le_refl _) _) (own_ge hown)
      clear e1 e2 e3 hown hgrow2 hbel
      go_wp2
      go_roundw
      case rel => exact ⟨k + 1, cur / 128, pre ++ [(cur % 128 + 128).toUInt8], by omega, by simp [Hk.out], by go_num, hown2, by rw [← Hpre.out, uvarint_big (x := cur) (by omega)]; simp, hb2⟩
      case measure => simp [intOf]; omega

theorem rPut_nat (n : Nat) (w : World) (h1 : n ≤ 268435456) : Calls Tryd.prog 56 #[.int .i64 n] w fun e w' => e = .returned (S (uvarint n)) ∧ Below w.heap.size w w' := by
  have := rPut_ok n w (by omega) (by omega)
  rwa [Int.toNat_natCast] at this


/- CRTake -/
open Go.RowKit Go.Lib

set_option maxRecDepth 100000 in
set_option maxHeartbeats 1000000 in
theorem rTake_any (s : ByteArray) (w : World) (hs : s.size ≤ maxLen) : Calls Tryd.prog 96 #[.string s] w fun e w' => e = .returned (rtakeV (tk 0 0 s.data.toList)) ∧ Below w.heap.size w w' := by
  unfold maxLen at hs
  go_enter Tryd.func96, Tryd.ntmps96
  go_wp2
  go_loopw [5, 6] (fun v i wr => ∃ (k acc : Nat), k ≤ 5 ∧ k ≤ s.size ∧ v = .int .i64 acc ∧ i = .int .i64 k ∧ acc < 2 ^ (7 * k) ∧ acc = val (s.data.toList.take k) ∧ (∀ b ∈ s.data.toList.take k, 128 ≤ b.toNat) ∧ tk 0 0 s.data.toList = tk k acc (s.data.toList.drop k) ∧ Below w.heap.size w wr) (fun _ i _ => 5 - (intOf i).toNat)
  case atStart => exact ⟨0, 0, by omega, by omega, rfl, rfl, by decide, by simp [val], by simp, rfl, Below.refl _ _⟩
  case round =>
    obtain ⟨k, acc, hk5, hks, rfl, rfl, hacc, hval, hall, hd, hbel⟩ := hrel
    have HD := Lib.hid hd
    have HV := Lib.hid hval
    have HA := Lib.hid hall
    clear hd hval hall
    by_cases hlt : k < s.size ∧ k < 5
    · obtain ⟨h1, h2⟩ := hlt
      have HL := Lib.hid (drop_byte s k h1)
      have hc256 := s[k].toNat_lt
      obtain ⟨c, hsk⟩ : ∃ c, s[k].toNat = c := ⟨_, rfl⟩
      rw [hsk] at hc256
      have hX := join_i64 (acc := acc) (c := c) h2 hacc (by omega)
      have hXl := acc_le (c := c) h2 hacc
      have HXn := Lib.hid (acc_lt (c := c) h2 hacc)
      have hvs := val_step s k acc h1 HV.out
      rw [hsk] at hvs
      clear hacc
      obtain ⟨X, hXe⟩ : ∃ X, acc + c % 128 * 2 ^ (7 * k) = X := ⟨_, rfl⟩
      rw [hXe] at hX hXl HXn hvs
      have HX := Lib.hid hXe
      have HVs := Lib.hid hvs
      clear hXe hvs
      have h3 : (k : Int) < s.size := by omega
      by_cases hc : 128 ≤ c
      · have HAs := Lib.hid (all_step s k h1 HA.out (by omega))
        go_wp2
        have hk2 : tk 0 0 s.data.toList = tk (k + 1) X (s.data.toList.drop (k + 1)) := by rw [HD.out, HL.out, tk_more h2 (by omega), hsk, HX.out]
        go_roundw
        case rel => exact ⟨k + 1, X, by omega, by omega, rfl, by go_num, HXn.out, HVs.out, HAs.out, hk2, hbel⟩
        case measure => simp [intOf]; omega
      · have hcl : c < 128 := by omega
        by_cases hX8 : X ≤ 268435456
        · have hd8 : decide ((268435456 : Int) < (X : Int)) = false := by simp; omega
          by_cases hc0 : c = 0 ∧ 0 < k
          · have hq : (uvarint X == (s.extract 0 (k + 1)).toList) = false := by
              have := put_off s k X h1 (by omega)
              rw [extract_toList]; simpa using this
            have hr : rtakeV (tk 0 0 s.data.toList) = rtakeV none := by rw [HD.out, HL.out, tk_bad h2 (by omega) (.inr (by omega))]
            have HR := Lib.hid hr
            clear hr hc0
            go_wp2_with fail
            refine wp_region_quiet_below (by kernel_rfl) (by kernel_rfl) ?_
            repeat (first | go_big_quiet_step (exact Calls.regrown_of (rPut_nat X _ hX8)) | quiet_step (exact Calls.regrown_of (rPut_nat X _ hX8)))
            refine wpQuiet_nil ?_
            intro _ hw'
            obtain ⟨⟨dq, osq⟩, hw''⟩ := hw'
            subst hw''
            have hb2 := hbel.trans ((below_regrown wr dq osq).mono hbel.size)
            generalize Sort.grow (redrawn wr dq) osq = w2 at *
            go_wp2
            go_ret3
            exact ⟨by rw [HR.out]; rfl, hb2⟩
          · have hq : (uvarint X == (s.extract 0 (k + 1)).toList) = true := by
              have := put_back s k acc h1 HV.out HA.out (by omega) (by omega)
              rw [hsk, HX.out] at this
              rw [extract_toList, this]; simp
            have hr : rtakeV (tk 0 0 s.data.toList) = rtakeV (some (X, s.data.toList.drop (k + 1))) := by
              rw [HD.out, HL.out, tk_done h2 (by omega) (by rw [hsk, HX.out]; exact hX8) (by omega), hsk, HX.out]
            have HR := Lib.hid hr
            have HT := Lib.hid (S_tail s (k + 1))
            clear hr hc0
            go_wp2_with fail
            refine wp_region_quiet_below (by kernel_rfl) (by kernel_rfl) ?_
            repeat (first | go_big_quiet_step (exact Calls.regrown_of (rPut_nat X _ hX8)) | quiet_step (exact Calls.regrown_of (rPut_nat X _ hX8)))
            refine wpQuiet_nil ?_
            intro _ hw'
            obtain ⟨⟨dq, osq⟩, hw''⟩ := hw'
            subst hw''
            have hb2 := hbel.trans ((below_regrown wr dq osq).mono hbel.size)
            generalize Sort.grow (redrawn wr dq) osq = w2 at *
            go_wp2
            go_quiet (fail)
            go_wp2
            go_ret3
            refine ⟨?_, below_drewN hb2 _⟩
            rw [HR.out]; show _ = Ending.returned (.tuple #[_, S _, _]); rw [← HT.out]; rfl
        · have hX8' : 268435456 < X := by omega
          have hd8 : decide ((268435456 : Int) < (X : Int)) = true := by simp; omega
          have hr : rtakeV (tk 0 0 s.data.toList) = rtakeV none := by rw [HD.out, HL.out, tk_bad h2 (by omega) (.inl (by rw [hsk, HX.out]; exact hX8'))]
          have HR := Lib.hid hr
          clear hr
          go_wp2
          go_quiet (fail)
          go_wp2
          go_ret3
          exact ⟨by rw [HR.out]; rfl, below_drewN hbel _⟩
    · have hr : rtakeV (tk 0 0 s.data.toList) = rtakeV none := by
        rw [HD.out, tk_end]
        by_cases h5 : 5 ≤ k
        · exact .inr h5
        · left; apply List.drop_eq_nil_of_le; simp; omega
      have HR := Lib.hid hr
      clear hr
      by_cases h5 : k < 5
      · have hnd : decide (k < s.size) = false := by simp; omega
        go_wp2
        go_ret3
        exact ⟨by rw [HR.out]; rfl, hbel⟩
      · have hnd : decide ((k : Int) < 5) = false := by simp; omega
        go_wp2
        go_ret3
        exact ⟨by rw [HR.out]; rfl, hbel⟩


/- CRText -/
open Go.RowKit Go.Lib

theorem rText_any (s : ByteArray) (w : World) (h : s.size ≤ 268435456) : Calls Tryd.prog 58 #[.string s] w fun e w' => e = .returned (S (uvarint s.size ++ s.data.toList)) ∧ Below w.heap.size w w' := by
  have hu : (uvarint s.size).length ≤ 5 := uvarint_length 4 s.size (by simp; omega)
  have HJ := Lib.hid (S_join (uvarint s.size) s)
  go_enter Tryd.func58, Tryd.ntmps58
  go_wp2_with fail
  refine (rPut_nat _ _ h).mono ?_
  rintro e w1 ⟨rfl, hb⟩
  go_wp2
  go_ret
  refine ⟨?_, hb⟩
  rw [← HJ.out]
  rfl


/- CRTakeText -/
open Go.RowKit Go.Lib

set_option maxRecDepth 100000 in
theorem rTakeText_any (s : ByteArray) (w : World) (hs : s.size ≤ maxLen) : Calls Tryd.prog 113 #[.string s] w fun e w' => e = .returned (rttV (tkText s.data.toList)) ∧ Below w.heap.size w w' := by
  have hT := rTake_any s w hs
  unfold maxLen at hs
  cases hk : tk 0 0 s.data.toList with
  | none =>
    rw [hk] at hT
    have HR := Lib.hid (tkText_none hk)
    have HT := Lib.hid hT
    clear hk hT
    go_enter Tryd.func113, Tryd.ntmps113
    go_wp2_with fail
    refine HT.out.mono ?_
    rintro e w1 ⟨rfl, hb⟩
    simp only [rtakeV]
    go_wp2
    go_ret3
    exact ⟨by rw [HR.out]; rfl, hb⟩
  | some p =>
    obtain ⟨n, r⟩ := p
    rw [hk] at hT
    have hl := tk_len _ _ _ _ _ hk
    have hz : s.data.toList.length = s.size := by simp
    rw [hz] at hl
    clear hz
    have HK := Lib.hid hk
    have HT := Lib.hid hT
    clear hk hT
    by_cases hn : n ≤ r.length
    · have HR := Lib.hid (tkText_some HK.out hn)
      have hn' : decide ((r.length : Int) < (n : Int)) = false := by simp; omega
      go_enter Tryd.func113, Tryd.ntmps113
      go_wp2_with fail
      refine HT.out.mono ?_
      rintro e w1 ⟨rfl, hb⟩
      simp only [rtakeV]
      go_wp2
      go_quiet (fail)
      go_wp2
      go_ret3
      refine ⟨?_, below_drewN hb _⟩
      rw [HR.out]
      exact S_cut r n _
    · have HR := Lib.hid (tkText_short HK.out hn)
      have hn' : decide ((r.length : Int) < (n : Int)) = true := by simp; omega
      go_enter Tryd.func113, Tryd.ntmps113
      go_wp2_with fail
      refine HT.out.mono ?_
      rintro e w1 ⟨rfl, hb⟩
      simp only [rtakeV]
      go_wp2
      go_ret3
      exact ⟨by rw [HR.out]; rfl, hb⟩


end Go.Proofs.YtnkinbobnhdpaaaDoor.Nb
