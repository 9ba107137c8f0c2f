/- The plain mathematics of numbers as bytes: no program in it. -/
import Derived.Lib.Varint
import Derived.Lib.VarintBits
import Derived.WalkKit
import Derived.Maps.AppendAt
import Derived.Deep.AppendLies
import Derived.Laws.IdiomStrings
import Derived.Lib.Strings
namespace Go.Proofs.Ytijggjgdepjjgaa
open Go.Lib

/-- a string's value from its bytes -/
abbrev S (l : List UInt8) : Value := .string ⟨l.toArray⟩

/-- a byte's cell -/
def u8v (b : UInt8) : Value := .int .u8 b.toNat

theorem oneInt (k : IntKind) (n : Int) : ∀ u ∈ [Value.int k n], u.oneCell' = true := ints_oneCell k [n]

/-- may a number be? -/
def okB (n : Int) : Bool := decide (0 ≤ n ∧ n ≤ 268435456)
theorem okB_yes {n : Int} (h0 : 0 ≤ n) (h1 : n ≤ 268435456) : okB n = true := by unfold okB; simp; omega
theorem okB_no {n : Int} (h : n < 0 ∨ 268435456 < n) : okB n = false := by unfold okB; simp; omega
theorem okB_of {n : Int} (h : okB n = true) : 0 ≤ n ∧ n ≤ 268435456 := by unfold okB at h; simpa using h
theorem okB_not {n : Int} (h : okB n = false) : n < 0 ∨ 268435456 < n := by unfold okB at h; simp at h; omega

theorem and127_i64 (x : Int) (h0 : 0 ≤ x) (h1 : x < 9223372036854775808) : bits .and .i64 x 127 = x % 128 :=
  bits_mask .i64 63 (by decide) (fun n a b => by rw [IntKind.wrap_i64]; omega) 7 (by decide) x h0 h1

theorem or128_i64 (y : Int) (h0 : 0 ≤ y) (h1 : y < 128) : bits .or .i64 y 128 = y + 128 :=
  bits_join_low .i64 63 (by decide) (fun n a b => by rw [IntKind.wrap_i64]; omega) 7 y 128 h0 h1 (by omega) (by decide) (by decide) (by decide)

theorem uvarint_two {x : Nat} (h : 128 ≤ x) : 2 ≤ (uvarint x).length := by
  rw [uvarint_big h, List.length_cons]; have := uvarint_pos (x / 128); omega
theorem u8v_small {x : Nat} (h : x < 128) : Value.int .u8 (x : Int) = u8v x.toUInt8 := by
  unfold u8v; congr 1; simp [UInt8.toNat_ofNat']; omega
theorem u8v_big (x : Nat) : Value.int .u8 ((x : Int) % 128 + 128) = u8v (x % 128 + 128).toUInt8 := by
  unfold u8v; congr 1; simp [UInt8.toNat_ofNat']; omega

open Go.RowKit

/-- which number bytes begin with: i bytes are read, acc is what they spell -/
def tk (i acc : Nat) : List UInt8 → Option (Nat × List UInt8)
  | [] => none
  | b :: r => if 5 ≤ i then none else if b.toNat < 128 then (if acc + b.toNat * 2 ^ (7 * i) ≤ 268435456 ∧ ¬ (b.toNat = 0 ∧ 0 < i) then some (acc + b.toNat * 2 ^ (7 * i), r) else none)
    else tk (i + 1) (acc + b.toNat % 128 * 2 ^ (7 * i)) r
/-- what number.Take tells -/
def takeV : Option (Nat × List UInt8) → Value
  | some (n, r) => .tuple #[.int .i64 n, S r, .int .i64 0]
  | none => .tuple #[.int .i64 0, S [], .int .i64 7]

/-- what the call owns stays owned where nothing that was there has turned -/
theorem owns_below {w w' : World} {base : Nat} {e : TypeId} {size : Nat} {v : Value} {n : Nat} {xs : List Value} (h : w.ownsRow base e size v n xs) (hb : Below w.heap.size w w') : w'.ownsRow base e size v n xs := by
  obtain ⟨h1, h2⟩ := h
  refine ⟨h1, ?_⟩
  rcases h2 with h2 | ⟨g, cap, cur, hv, hg, hh, r⟩
  · exact .inl h2
  · refine .inr ⟨g, cap, cur, hv, hg, ?_, r⟩
    rw [hb.block g (by by_cases hlt : g < w.heap.size; exact hlt; rw [Array.getElem?_eq_none (by omega)] at hh; cases hh)]
    exact hh

theorem alloc_le {B : Nat} {w wr : World} (h : Below B w wr) (hB : B ≤ w.heap.size) (o : Obj) : B ≤ (wr.alloc o).heap.size := by
  have := h.size; simp; omega
theorem own_ge {w : World} {base : Nat} {e : TypeId} {size : Nat} {v : Value} {n : Nat} {xs : List Value} (h : w.ownsRow base e size v n xs) : ∀ k, v.ownBlock = some k → base ≤ k := fun k hk => (h.lt k hk).1

/-- string(b), b the call's own -/
theorem conv_owned {P : Program} (w : World) (src dst e : TypeId) (base g k cap : Nat) (l : List UInt8) (hs : P.underlying src = some (.slice e)) (he : P.underlying e = some (.int .u8)) (hd : P.underlying dst = some .string)
    (h : w.ownsRow base e 1 (.slice (some ⟨g, 0, none⟩) k cap) k (l.map u8v)) :
    (convert src dst (.slice (some ⟨g, 0, none⟩) k cap)).run P w = .ok (S l) w := by
  have hl : l.length = k := by have := h.1; simpa using this
  subst hl
  refine run_convert_bytes_back w src dst e ⟨g, 0, none⟩ cap l hs he hd ?_
  intro j hj
  have := h.cellAt j (by omega)
  rw [Addr.add_lit, Nat.zero_add, this]
  simp [hj, u8v]


theorem pow7 {k : Nat} (hk : k < 5) : 2 ^ (7 * k) = 1 ∨ 2 ^ (7 * k) = 128 ∨ 2 ^ (7 * k) = 16384 ∨ 2 ^ (7 * k) = 2097152 ∨ 2 ^ (7 * k) = 268435456 := by
  have : k = 0 ∨ k = 1 ∨ k = 2 ∨ k = 3 ∨ k = 4 := by omega
  rcases this with rfl | rfl | rfl | rfl | rfl <;> decide
theorem pow7_succ (k : Nat) : 2 ^ (7 * (k + 1)) = 128 * 2 ^ (7 * k) := by
  rw [show 7 * (k + 1) = 7 * k + 7 from by omega, Nat.pow_add]; omega
theorem mul_mod_self' (c p : Nat) : c * p % p = 0 := Nat.mul_mod_left c p
theorem acc_lt {acc c k : Nat} (hk : k < 5) (hacc : acc < 2 ^ (7 * k)) : acc + c % 128 * 2 ^ (7 * k) < 2 ^ (7 * (k + 1)) := by
  rw [pow7_succ]
  have : c % 128 < 128 := Nat.mod_lt _ (by decide)
  rcases pow7 hk with h | h | h | h | h <;> rw [h] at hacc ⊢ <;> omega
theorem acc_le {acc c k : Nat} (hk : k < 5) (hacc : acc < 2 ^ (7 * k)) : acc + c % 128 * 2 ^ (7 * k) < 34359738368 := by
  have h1 := acc_lt (c := c) hk hacc
  have h2 : 2 ^ (7 * (k + 1)) ≤ 2 ^ (7 * 5) := Nat.pow_le_pow_right (by decide) (by omega)
  have h3 : 2 ^ (7 * 5) = 34359738368 := by decide
  omega
theorem natpow7 (k : Nat) : ((2 : Int) ^ (7 * k)) = ((2 ^ (7 * k) : Nat) : Int) := by rw [Int.natCast_pow]; rfl

theorem join_u64 {acc c k : Nat} (hk : k < 5) (hacc : acc < 2 ^ (7 * k)) (hc : c < 256) :
    bits .or .u64 (acc : Int) (IntKind.u64.wrap (IntKind.u64.wrap (bits .and .u8 (c : Int) 127) * 2 ^ (7 * k))) = ((acc + c % 128 * 2 ^ (7 * k) : Nat) : Int) := by
  have h1 := acc_le (c := c) hk hacc
  rw [u8_and127 _ (by omega) (by omega), natpow7, IntWalk.u64_in ((c : Int) % 128) ⟨by omega, by omega⟩]
  have e : ((c : Int) % 128) * ((2 ^ (7 * k) : Nat) : Int) = ((c % 128 * 2 ^ (7 * k) : Nat) : Int) := by rw [Int.natCast_mul]; rfl
  rw [e, IntWalk.u64_in _ ⟨by omega, by omega⟩]
  have h2 : c % 128 * 2 ^ (7 * k) < 34359738368 := by omega
  have h3 : ((c % 128 * 2 ^ (7 * k) : Nat) : Int) % (2 ^ (7 * k)) = 0 := by
    rw [natpow7, ← Int.natCast_emod, Nat.mul_mod_left]; rfl
  have h4 := bits_join_low .u64 64 (by decide) wraps_u64 (7 * k) (acc : Int) ((c % 128 * 2 ^ (7 * k) : Nat) : Int) (by omega) (by rw [natpow7]; omega) (by omega) (by omega) h3 (by omega)
  rw [h4]
  omega

theorem join_i64 {acc c k : Nat} (hk : k < 5) (hacc : acc < 2 ^ (7 * k)) (hc : c < 256) :
    bits .or .i64 (acc : Int) (wrap64 (wrap64 (bits .and .u8 (c : Int) 127) * 2 ^ (7 * k))) = ((acc + c % 128 * 2 ^ (7 * k) : Nat) : Int) := by
  have h1 := acc_le (c := c) hk hacc
  rw [u8_and127 _ (by omega) (by omega), natpow7, IntWalk.wrap64_in ((c : Int) % 128) ⟨by omega, by omega⟩]
  have e : ((c : Int) % 128) * ((2 ^ (7 * k) : Nat) : Int) = ((c % 128 * 2 ^ (7 * k) : Nat) : Int) := by rw [Int.natCast_mul]; rfl
  rw [e, IntWalk.wrap64_in _ ⟨by omega, by omega⟩]
  have h2 : c % 128 * 2 ^ (7 * k) < 34359738368 := by omega
  have h3 : ((c % 128 * 2 ^ (7 * k) : Nat) : Int) % (2 ^ (7 * k)) = 0 := by
    rw [natpow7, ← Int.natCast_emod, Nat.mul_mod_left]; rfl
  have h4 := bits_join_low .i64 63 (by decide) (fun n a b => by rw [IntKind.wrap_i64]; omega) (7 * k) (acc : Int) ((c % 128 * 2 ^ (7 * k) : Nat) : Int) (by omega) (by rw [natpow7]; omega) (by omega) (by omega) h3 (by omega)
  rw [h4]
  omega

theorem tk_more {k acc : Nat} {b : UInt8} {r : List UInt8} (hk : k < 5) (hb : 128 ≤ b.toNat) : tk k acc (b :: r) = tk (k + 1) (acc + b.toNat % 128 * 2 ^ (7 * k)) r := by
  rw [tk, if_neg (by omega), if_neg (by omega)]
theorem tk_done {k acc : Nat} {b : UInt8} {r : List UInt8} (hk : k < 5) (hb : b.toNat < 128) (h1 : acc + b.toNat % 128 * 2 ^ (7 * k) ≤ 268435456) (h2 : ¬ (b.toNat = 0 ∧ 0 < k)) : tk k acc (b :: r) = some (acc + b.toNat % 128 * 2 ^ (7 * k), r) := by
  rw [Nat.mod_eq_of_lt hb] at h1 ⊢
  rw [tk, if_neg (by omega), if_pos hb, if_pos ⟨h1, h2⟩]
theorem tk_bad {k acc : Nat} {b : UInt8} {r : List UInt8} (hk : k < 5) (hb : b.toNat < 128) (h : 268435456 < acc + b.toNat % 128 * 2 ^ (7 * k) ∨ (b.toNat = 0 ∧ 0 < k)) : tk k acc (b :: r) = none := by
  rw [Nat.mod_eq_of_lt hb] at h
  rw [tk, if_neg (by omega), if_pos hb, if_neg (by omega)]
theorem tk_end {k acc : Nat} {l : List UInt8} (h : l = [] ∨ 5 ≤ k) : tk k acc l = none := by
  cases l with
  | nil => rfl
  | cons b r => rcases h with h | h
                · cases h
                · rw [tk, if_pos h]

theorem S_tail (s : ByteArray) (k : Nat) : Value.string (s.extract k s.size) = S (s.data.toList.drop k) := by
  unfold S; rw [Lib.extract_eq, List.take_of_length_le]; simp
theorem S_head (s : ByteArray) (k : Nat) : Value.string (s.extract 0 k) = S (s.data.toList.take k) := by
  unfold S; rw [Lib.extract_eq]; simp
theorem drop_byte (s : ByteArray) (k : Nat) (h : k < s.size) : s.data.toList.drop k = s[k] :: s.data.toList.drop (k + 1) := by
  rw [List.drop_eq_getElem_cons (by simpa using h)]; rfl


/-- what the page's own Take tells -/
def rtakeV : Option (Nat × List UInt8) → Value
  | some (n, r) => .tuple #[.int .i64 n, S r, .bool true]
  | none => .tuple #[.int .i64 0, S [], .bool false]

/-- what bytes spell -/
def val : List UInt8 → Nat
  | [] => 0
  | b :: r => b.toNat % 128 + 128 * val r
theorem val_snoc (l : List UInt8) (b : UInt8) : val (l ++ [b]) = val l + b.toNat % 128 * 2 ^ (7 * l.length) := by
  induction l with
  | nil => simp [val]
  | cons a l ih =>
    rw [List.cons_append, val, ih, val, List.length_cons, pow7_succ, Nat.mul_add, Nat.mul_left_comm]; omega
theorem uvarint_zero : ∀ (x : Nat) (m : List UInt8), uvarint x = m ++ [0] → m = [] ∧ x = 0 := by
  intro x
  induction x using Nat.strongRecOn with
  | _ x ih =>
    intro m h
    by_cases hx : x < 128
    · rw [uvarint_small hx] at h
      cases m with
      | nil =>
        refine ⟨rfl, ?_⟩
        simp at h
        have := congrArg UInt8.toNat h
        simp [UInt8.toNat_ofNat'] at this
        omega
      | cons a m => simp at h
    · rw [uvarint_big (by omega)] at h
      cases m with
      | nil => have h1 := congrArg List.length h; have h2 := uvarint_pos (x / 128); rw [List.length_cons, List.nil_append, List.length_singleton] at h1; omega
      | cons a m =>
        rw [List.cons_append] at h
        have := (ih (x / 128) (by omega) m (List.cons.inj h).2).2
        omega
theorem val_pos (l : List UInt8) (b : UInt8) (hb : b.toNat < 128) (h0 : b.toNat ≠ 0) : 1 ≤ val (l ++ [b]) := by
  induction l with
  | nil => simp [val]; omega
  | cons a l ih => rw [List.cons_append, val]; omega
theorem uvarint_val : ∀ (l : List UInt8) (b : UInt8), (∀ a ∈ l, 128 ≤ a.toNat) → b.toNat < 128 → (b.toNat ≠ 0 ∨ l = []) → uvarint (val (l ++ [b])) = l ++ [b] := by
  intro l
  induction l with
  | nil => intro b _ hb _; rw [List.nil_append, val, val, Nat.mod_eq_of_lt hb, Nat.mul_zero, Nat.add_zero, uvarint_small hb]; simp
  | cons a l ih =>
    intro b hl hb h0
    have h0' : b.toNat ≠ 0 := by rcases h0 with h | h; exact h; cases h
    have hp := val_pos l b hb h0'
    have ha := hl a (by simp)
    have ha2 := a.toNat_lt
    rw [List.cons_append, val, uvarint_big (by omega)]
    have e1 : (a.toNat % 128 + 128 * val (l ++ [b])) / 128 = val (l ++ [b]) := by omega
    have e2 : (a.toNat % 128 + 128 * val (l ++ [b])) % 128 + 128 = a.toNat := by omega
    rw [e1, e2, ih b (fun x hx => hl x (by simp [hx])) hb (.inl h0')]
    simp
theorem uvarint_ne (l : List UInt8) (b : UInt8) (h0 : b.toNat = 0) (hl : l ≠ []) (x : Nat) : uvarint x ≠ l ++ [b] := by
  intro h
  have : b = 0 := UInt8.toNat_inj.1 (by rw [h0]; rfl)
  subst this
  exact hl (uvarint_zero x l h).1


theorem take_byte (s : ByteArray) (k : Nat) (h : k < s.size) : s.data.toList.take (k + 1) = s.data.toList.take k ++ [s[k]] := by
  rw [List.take_succ_eq_append_getElem (by simpa using h)]; rfl
theorem val_step (s : ByteArray) (k acc : Nat) (h : k < s.size) (hv : acc = val (s.data.toList.take k)) : acc + s[k].toNat % 128 * 2 ^ (7 * k) = val (s.data.toList.take (k + 1)) := by
  rw [take_byte s k h, val_snoc, ← hv]; simp; rw [Nat.min_eq_left (Nat.le_of_lt h)]
theorem all_step (s : ByteArray) (k : Nat) (h : k < s.size) (ha : ∀ b ∈ s.data.toList.take k, 128 ≤ b.toNat) (hb : 128 ≤ s[k].toNat) : ∀ b ∈ s.data.toList.take (k + 1), 128 ≤ b.toNat := by
  rw [take_byte s k h]; intro b hb'; rcases List.mem_append.1 hb' with h1 | h1
  · exact ha b h1
  · simp at h1; subst h1; exact hb
/-- the page's test: the bytes are those that Put tells, unless the last is 0 behind others -/
theorem put_back (s : ByteArray) (k acc : Nat) (h : k < s.size) (hv : acc = val (s.data.toList.take k)) (ha : ∀ b ∈ s.data.toList.take k, 128 ≤ b.toNat) (hb : s[k].toNat < 128) (h0 : ¬ (s[k].toNat = 0 ∧ 0 < k)) :
    uvarint (acc + s[k].toNat % 128 * 2 ^ (7 * k)) = s.data.toList.take (k + 1) := by
  rw [val_step s k acc h hv, take_byte s k h]
  refine uvarint_val _ _ ha hb ?_
  by_cases hk : 0 < k
  · left; omega
  · right; have : k = 0 := by omega
    subst this; simp
theorem put_off (s : ByteArray) (k x : Nat) (h : k < s.size) (h0 : s[k].toNat = 0 ∧ 0 < k) : uvarint x ≠ s.data.toList.take (k + 1) := by
  rw [take_byte s k h]
  refine uvarint_ne _ _ h0.1 ?_ x
  intro hn
  have h1 := congrArg List.length hn
  rw [List.length_take, Array.length_toList] at h1
  have hz : s.data.size = s.size := rfl
  rw [hz, List.length_nil] at h1
  omega


/-- the text that bytes begin with, what is behind -/
def tkText (l : List UInt8) : Option (List UInt8 × List UInt8) :=
  match tk 0 0 l with
  | some (n, r) => if n ≤ r.length then some (r.take n, r.drop n) else none
  | none => none
theorem tkText_none {l : List UInt8} (h : tk 0 0 l = none) : tkText l = none := by unfold tkText; rw [h]
theorem tkText_some {l r : List UInt8} {n : Nat} (h : tk 0 0 l = some (n, r)) (hn : n ≤ r.length) : tkText l = some (r.take n, r.drop n) := by unfold tkText; rw [h]; simp [hn]
theorem tkText_short {l r : List UInt8} {n : Nat} (h : tk 0 0 l = some (n, r)) (hn : ¬ n ≤ r.length) : tkText l = none := by unfold tkText; rw [h]; simp [hn]
def ttV : Option (List UInt8 × List UInt8) → Value
  | some (t, r) => .tuple #[S t, S r, .int .i64 0]
  | none => .tuple #[S [], S [], .int .i64 7]
def rttV : Option (List UInt8 × List UInt8) → Value
  | some (t, r) => .tuple #[S t, S r, .bool true]
  | none => .tuple #[S [], S [], .bool false]

theorem tk_len : ∀ (l : List UInt8) (i acc n : Nat) (r : List UInt8), tk i acc l = some (n, r) → n ≤ 268435456 ∧ r.length < l.length := by
  intro l
  induction l with
  | nil => intro i acc n r h; cases h
  | cons b l ih =>
    intro i acc n r h
    rw [tk] at h
    split at h
    · cases h
    · split at h
      · split at h
        · rename_i h1
          simp only [Option.some.injEq, Prod.mk.injEq] at h
          obtain ⟨rfl, rfl⟩ := h
          exact ⟨h1.1, by simp⟩
        · cases h
      · have := ih _ _ _ _ h
        exact ⟨this.1, by simp; omega⟩


theorem S_cut (r : List UInt8) (n : Nat) (v : Value) : Ending.returned (.tuple #[.string ((⟨r.toArray⟩ : ByteArray).extract 0 n), .string ((⟨r.toArray⟩ : ByteArray).extract n r.length), v]) = .returned (.tuple #[S (r.take n), S (r.drop n), v]) := by
  have h1 := S_head ⟨r.toArray⟩ n
  have h2 := S_tail ⟨r.toArray⟩ n
  have e : (⟨r.toArray⟩ : ByteArray).size = r.length := rfl
  rw [e] at h2
  rw [h1, h2]
theorem S_join (l : List UInt8) (s : ByteArray) : Value.string ((⟨l.toArray⟩ : ByteArray) ++ s) = S (l ++ s.data.toList) := by
  congr 1


theorem pow_one_le (i : Nat) : 1 ≤ 2 ^ (7 * i) := Nat.one_le_two_pow
theorem tk_uvarint : ∀ (x i acc : Nat) (r : List UInt8), acc + x * 2 ^ (7 * i) ≤ 268435456 → (x ≠ 0 ∨ i = 0) → i + (uvarint x).length ≤ 5 → tk i acc (uvarint x ++ r) = some (acc + x * 2 ^ (7 * i), r) := by
  intro x
  induction x using Nat.strongRecOn with
  | _ x ih =>
    intro i acc r h1 h2 h3
    by_cases hx : x < 128
    · rw [uvarint_small hx] at h3 ⊢
      have e : x.toUInt8.toNat = x := by simp [UInt8.toNat_ofNat']; omega
      rw [List.singleton_append, tk_done (by simp at h3; omega) (by omega) (by rw [e, Nat.mod_eq_of_lt hx]; exact h1) (by omega), e, Nat.mod_eq_of_lt hx]
    · rw [uvarint_big (by omega)] at h3 ⊢
      have e : (x % 128 + 128).toUInt8.toNat = x % 128 + 128 := by simp [UInt8.toNat_ofNat']; omega
      have e2 : (x % 128 + 128) % 128 = x % 128 := by omega
      have hm : x * 2 ^ (7 * i) = x % 128 * 2 ^ (7 * i) + x / 128 * 2 ^ (7 * (i + 1)) := by
        rw [pow7_succ, ← Nat.mul_assoc, ← Nat.add_mul]; congr 1; omega
      rw [List.length_cons] at h3
      rw [List.cons_append, tk_more (by omega) (by omega), e, e2, ih (x / 128) (by omega) (i + 1) _ r (by omega) (.inl (by omega)) (by omega)]
      congr 2; omega
theorem tk_put {n : Nat} (h : n ≤ 268435456) (r : List UInt8) : tk 0 0 (uvarint n ++ r) = some (n, r) := by
  have := tk_uvarint n 0 0 r (by simpa using h) (.inr rfl) (by have := uvarint_length 4 n (by simp; omega); omega)
  simpa using this
theorem tkText_put {l : List UInt8} (h : l.length ≤ 268435456) (r : List UInt8) : tkText (uvarint l.length ++ l ++ r) = some (l, r) := by
  rw [List.append_assoc, tkText_some (tk_put h _) (by simp)]; simp
/-- bytes that all go on are no number -/
theorem tk_open : ∀ (l : List UInt8) (i acc : Nat), (∀ b ∈ l, 128 ≤ b.toNat) → tk i acc l = none := by
  intro l
  induction l with
  | nil => intros; rfl
  | cons b l ih =>
    intro i acc h
    rw [tk]
    split
    · rfl
    · rw [if_neg (by have := h b (by simp); omega)]
      exact ih _ _ (fun x hx => h x (by simp [hx]))
theorem uvarint_init : ∀ (x k : Nat), k < (uvarint x).length → ∀ b ∈ (uvarint x).take k, 128 ≤ b.toNat := by
  intro x
  induction x using Nat.strongRecOn with
  | _ x ih =>
    intro k hk b hb
    by_cases hx : x < 128
    · rw [uvarint_small hx] at hk hb
      simp at hk; subst hk; simp at hb
    · rw [uvarint_big (by omega)] at hk hb
      cases k with
      | zero => simp at hb
      | succ k =>
        rw [List.take_succ_cons] at hb
        rcases List.mem_cons.1 hb with h | h
        · subst h
          simp [UInt8.toNat_ofNat']; omega
        · exact ih (x / 128) (by omega) k (by simpa using hk) b h
theorem tkText_torn {l : List UInt8} (h : l.length ≤ 268435456) (k : Nat) (hk : k < (uvarint l.length ++ l).length) : tkText ((uvarint l.length ++ l).take k) = none := by
  by_cases hk1 : k < (uvarint l.length).length
  · rw [List.take_append_of_le_length (by omega)]
    exact tkText_none (tk_open _ _ _ (uvarint_init _ _ hk1))
  · rw [List.take_append, List.take_of_length_le (by omega)]
    rw [List.length_append] at hk
    exact tkText_short (tk_put h _) (by simp; omega)


theorem join_list (s t : ByteArray) : (s ++ t).data.toList = s.data.toList ++ t.data.toList := by simp
theorem joined_list (l : List UInt8) (t : ByteArray) : ((⟨l.toArray⟩ : ByteArray) ++ t).data.toList = l ++ t.data.toList := by simp
theorem joined_size (l : List UInt8) (t : ByteArray) : ((⟨l.toArray⟩ : ByteArray) ++ t).size = l.length + t.size := by simp; rfl
theorem len_size (s : ByteArray) : s.data.toList.length = s.size := by simp
theorem cut_list (l : List UInt8) (k : Nat) : ((⟨l.toArray⟩ : ByteArray).extract 0 k).data.toList = l.take k := by rw [extract_data]; simp


theorem conv_one {P : Program} (w : World) (src dst e : TypeId) (x : Int) (hs : P.underlying src = some (.slice e)) (he : P.underlying e = some (.int .u8)) (hd : P.underlying dst = some .string) (h0 : 0 ≤ x) (h1 : x < 256) :
    (convert src dst (.slice (some ⟨w.heap.size, 0, none⟩) 1 1)).run P (w.alloc (.cells #[.int .u8 x] e)) = .ok (S [UInt8.ofNat x.toNat]) (w.alloc (.cells #[.int .u8 x] e)) := by
  refine run_convert_bytes_back (w.alloc (.cells #[.int .u8 x] e)) src dst e ⟨w.heap.size, 0, none⟩ 1 [UInt8.ofNat x.toNat] hs he hd ?_
  intro j hj
  have hj0 : j = 0 := by simpa using hj
  subst hj0
  have ex : ((UInt8.ofNat x.toNat).toNat : Int) = x := by simp [UInt8.toNat_ofNat']; omega
  simp only [List.getElem_cons_zero, ex]
  simp [Addr.add]

end Go.Proofs.Ytijggjgdepjjgaa
