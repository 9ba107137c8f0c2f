/- The plain mathematics of runes and texts: no program in it. -/
import Derived.Lib.RuneCount
import Derived.Lib.DecodeN
import Derived.Lib.RuneBytes
import Derived.Laws.Concat
import Derived.WalkKit
namespace Go.Proofs.YtnkinbobnhdpaaaDoor
open Go.Lib

/-- a string's value from its bytes -/
abbrev S (l : List UInt8) : Value := .string ⟨l.toArray⟩

/-- may a rune be? -/
def okR (r : Int) : Bool := decide (r = 10 ∨ (32 ≤ r ∧ r ≤ 55295 ∧ r ≠ 127) ∨ (57344 ≤ r ∧ r ≤ 1114111 ∧ r ≠ 65533))
theorem okR_of {r : Int} (h : okR r = true) : r = 10 ∨ (32 ≤ r ∧ r ≤ 55295 ∧ r ≠ 127) ∨ (57344 ≤ r ∧ r ≤ 1114111 ∧ r ≠ 65533) := by
  unfold okR at h; exact of_decide_eq_true h
theorem okR_not {r : Int} (h : okR r = false) : ¬ (r = 10 ∨ (32 ≤ r ∧ r ≤ 55295 ∧ r ≠ 127) ∨ (57344 ≤ r ∧ r ≤ 1114111 ∧ r ≠ 65533)) := by
  unfold okR at h; exact of_decide_eq_false h
theorem okR_yes {r : Int} (h : r = 10 ∨ (32 ≤ r ∧ r ≤ 55295 ∧ r ≠ 127) ∨ (57344 ≤ r ∧ r ≤ 1114111 ∧ r ≠ 65533)) : okR r = true := decide_eq_true h
theorem okR_no {r : Int} (h : ¬ (r = 10 ∨ (32 ≤ r ∧ r ≤ 55295 ∧ r ≠ 127) ∨ (57344 ≤ r ∧ r ≤ 1114111 ∧ r ≠ 65533))) : okR r = false := decide_eq_false h

/-- the runes of s from pos on -/
def rnsFrom (s : ByteArray) : Nat → Nat → List Int
  | 0, _ => []
  | f + 1, pos => if pos < s.size then ((Utf8.decode s pos).1 : Int) :: rnsFrom s f (pos + (Utf8.decode s pos).2) else []
def rns (s : ByteArray) : List Int := rnsFrom s s.size 0
def okT (s : ByteArray) : Bool := (rns s).all okR
def mk (l : List Int) : List UInt8 := l.flatMap Lib.encodeRune

theorem rnsFrom_end (s : ByteArray) (f pos : Nat) (h : ¬ pos < s.size) : rnsFrom s f pos = [] := by
  cases f <;> simp [rnsFrom, h]
theorem rnsFrom_step (s : ByteArray) (f pos : Nat) (h : pos < s.size) : rnsFrom s (f + 1) pos = ((Utf8.decode s pos).1 : Int) :: rnsFrom s f (pos + (Utf8.decode s pos).2) := by
  simp [rnsFrom, h]
theorem rnsFrom_length (s : ByteArray) : ∀ f pos, (rnsFrom s f pos).length ≤ f
  | 0, _ => by simp [rnsFrom]
  | f + 1, pos => by
    have := rnsFrom_length s f (pos + (Utf8.decode s pos).2)
    unfold rnsFrom
    split <;> simp <;> omega
theorem rns_length (s : ByteArray) : (rns s).length ≤ s.size := rnsFrom_length s _ _
theorem rnsFrom_fuel (s : ByteArray) : ∀ f g pos, s.size ≤ pos + f → s.size ≤ pos + g → rnsFrom s f pos = rnsFrom s g pos
  | 0, g, pos, h, _ => by rw [rnsFrom_end s 0 pos (by omega), rnsFrom_end s g pos (by omega)]
  | f + 1, 0, pos, _, h => by rw [rnsFrom_end s 0 pos (by omega), rnsFrom_end s (f + 1) pos (by omega)]
  | f + 1, g + 1, pos, h1, h2 => by
    by_cases hp : pos < s.size
    · have := decode_width_pos s pos hp
      rw [rnsFrom_step s f pos hp, rnsFrom_step s g pos hp, rnsFrom_fuel s f g _ (by omega) (by omega)]
    · rw [rnsFrom_end s _ pos hp, rnsFrom_end s _ pos hp]
theorem rnsFrom_i32 (s : ByteArray) : ∀ f pos, ∀ r ∈ rnsFrom s f pos, 0 ≤ r ∧ r ≤ 2147483647
  | 0, _, r, h => by simp [rnsFrom] at h
  | f + 1, pos, r, h => by
    unfold rnsFrom at h
    split at h
    · rcases List.mem_cons.1 h with rfl | h
      · have := decode_le s pos; omega
      · exact rnsFrom_i32 s f _ r h
    · cases h

theorem mk_nil : mk [] = [] := rfl
theorem mk_append (a b : List Int) : mk (a ++ b) = mk a ++ mk b := by simp [mk]
theorem mk_cons (r : Int) (l : List Int) : mk (r :: l) = Lib.encodeRune r ++ mk l := by simp [mk]
theorem encodeRune_le (r : Int) : (Lib.encodeRune r).length ≤ 4 := by
  have := Lib.runeCells_le r; rw [Lib.runeCells_length] at this; exact this.2
theorem mk_length (l : List Int) : (mk l).length ≤ 4 * l.length := by
  induction l with
  | nil => simp [mk]
  | cons r l ih => rw [mk_cons, List.length_append, List.length_cons]; have := encodeRune_le r; omega

/-- the model's conversion of a rune to a text is the same -/
theorem encode_eq (r : Int) : Utf8.encode r = ⟨(Lib.encodeRune r).toArray⟩ := by
  unfold Utf8.encode Lib.encodeRune
  by_cases h1 : 0 ≤ r ∧ r ≤ 127
  · rw [encodeRuneZ_one h1.1 h1.2]
    have hv : Utf8.valid r = true := by simp [Utf8.valid]; omega
    have hn : r.toNat < 128 := by omega
    simp [hv, hn]
  by_cases h2 : 128 ≤ r ∧ r ≤ 2047
  · rw [encodeRuneZ_two h2.1 h2.2]
    have hv : Utf8.valid r = true := by simp [Utf8.valid]; omega
    have hn : ¬ r.toNat < 128 := by omega
    have hn2 : r.toNat < 2048 := by omega
    obtain ⟨n, rfl⟩ : ∃ n : Nat, r = n := ⟨r.toNat, by omega⟩
    simp at hn hn2
    have e1 : (192 + (n : Int) / 64).toNat = 192 + n / 64 := by omega
    have e2 : (128 + (n : Int) % 64).toNat = 128 + n % 64 := by omega
    simp [hv, hn, hn2, e1, e2, Nat.toUInt8]
  by_cases h3 : (2048 ≤ r ∧ r < 55296) ∨ (57343 < r ∧ r ≤ 65535)
  · rw [encodeRuneZ_three h3]
    have hv : Utf8.valid r = true := by simp [Utf8.valid]; omega
    obtain ⟨n, rfl⟩ : ∃ n : Nat, r = n := ⟨r.toNat, by omega⟩
    have hn : ¬ n < 128 := by omega
    have hn2 : ¬ n < 2048 := by omega
    have hn3 : n < 65536 := by omega
    have e1 : (224 + (n : Int) / 4096).toNat = 224 + n / 4096 := by omega
    have e2 : (128 + (n : Int) / 64 % 64).toNat = 128 + n / 64 % 64 := by omega
    have e3 : (128 + (n : Int) % 64).toNat = 128 + n % 64 := by omega
    simp [hv, hn, hn2, hn3, e1, e2, e3, Nat.toUInt8]
  by_cases h4 : 65536 ≤ r ∧ r ≤ 1114111
  · rw [encodeRuneZ_four h4.1 h4.2]
    have hv : Utf8.valid r = true := by simp [Utf8.valid]; omega
    obtain ⟨n, rfl⟩ : ∃ n : Nat, r = n := ⟨r.toNat, by omega⟩
    have hn : ¬ n < 128 := by omega
    have hn2 : ¬ n < 2048 := by omega
    have hn3 : ¬ n < 65536 := by omega
    have e1 : (240 + (n : Int) / 262144).toNat = 240 + n / 262144 := by omega
    have e0 : (128 + (n : Int) / 4096 % 64).toNat = 128 + n / 4096 % 64 := by omega
    have e2 : (128 + (n : Int) / 64 % 64).toNat = 128 + n / 64 % 64 := by omega
    have e3 : (128 + (n : Int) % 64).toNat = 128 + n % 64 := by omega
    simp [hv, hn, hn2, hn3, e0, e1, e2, e3, Nat.toUInt8]
  · rw [encodeRuneZ_bad (by omega)]
    have hv : Utf8.valid r = false := by simp [Utf8.valid]; omega
    simp [hv, Utf8.runeError]

/-- what was decoded, encoded, is what was read -/
theorem decodeN_back (n b0 b1 b2 b3 : Nat) (h0 : b0 < 256) (h1 : b1 < 256) (h2 : b2 < 256) (_h3 : b3 < 256) (hn : 1 ≤ n) (hr : (decodeN n b0 b1 b2 b3).1 ≠ 65533) :
    (decodeN n b0 b1 b2 b3).2 ≤ n ∧ encodeRuneZ (decodeN n b0 b1 b2 b3).1 = ([(b0 : Int), b1, b2, b3].take (decodeN n b0 b1 b2 b3).2) := by
  unfold decodeN at hr ⊢
  split
  · rename_i h
    refine ⟨hn, ?_⟩
    rw [encodeRuneZ_one (by omega) (by omega)]; rfl
  · rename_i g0
    rw [if_neg g0] at hr
    split
    · rename_i g1
      rw [if_pos g1] at hr
      split
      · rename_i g2
        refine ⟨by omega, ?_⟩
        rw [encodeRuneZ_two (by omega) (by omega)]
        simp only [List.take, List.cons.injEq, and_true]
        omega
      · rename_i g2; rw [if_neg g2] at hr; exact absurd rfl hr
    · rename_i g1
      rw [if_neg g1] at hr
      split
      · rename_i g3
        rw [if_pos g3] at hr
        split
        · rename_i g2
          refine ⟨by omega, ?_⟩
          rw [encodeRuneZ_three (by omega)]
          simp only [List.take, List.cons.injEq, and_true]
          omega
        · rename_i g2; rw [if_neg g2] at hr; exact absurd rfl hr
      · rename_i g3
        rw [if_neg g3] at hr
        split
        · rename_i g4
          rw [if_pos g4] at hr
          split
          · rename_i g2
            refine ⟨by omega, ?_⟩
            rw [encodeRuneZ_four (by omega) (by omega)]
            simp only [List.take, List.cons.injEq, and_true]
            omega
          · rename_i g2; rw [if_neg g2] at hr; exact absurd rfl hr
        · rename_i g4; rw [if_neg g4] at hr; exact absurd rfl hr

theorem get_drop (s : ByteArray) (i k : Nat) (h : i + k < s.size) : (s.data.toList.drop i)[k]? = some (s.get! (i + k)) := by
  rw [List.getElem?_drop, Array.getElem?_toList]
  have h' : i + k < s.data.size := h
  rw [Array.getElem?_eq_getElem h']
  show some s.data[i + k] = some (s.data[i + k]!)
  rw [getElem!_pos s.data (i + k) h']

theorem take_of_four (l : List UInt8) (n : Nat) (c : Nat → UInt8) (h : ∀ k, k < n → l[k]? = some (c k)) (hn : n ≤ 4) (hn1 : 1 ≤ n) : l.take n = [c 0, c 1, c 2, c 3].take n := by
  apply List.ext_getElem?
  intro k
  rw [List.getElem?_take, List.getElem?_take]
  split
  · rename_i hk
    rw [h k hk]
    have : k = 0 ∨ k = 1 ∨ k = 2 ∨ k = 3 := by omega
    rcases this with rfl | rfl | rfl | rfl <;> rfl
  · rfl

theorem decode_width_le (s : ByteArray) (pos : Nat) : (Utf8.decode s pos).2 ≤ 4 := by
  rw [Lib.decode_at]
  unfold decodeN
  repeat' split
  all_goals simp

theorem decode_back (s : ByteArray) (pos : Nat) (h : pos < s.size) (hr : (Utf8.decode s pos).1 ≠ 65533) :
    pos + (Utf8.decode s pos).2 ≤ s.size ∧ Lib.encodeRune (Utf8.decode s pos).1 = (s.data.toList.drop pos).take (Utf8.decode s pos).2 := by
  have hw := decode_width_le s pos
  have hw1 := decode_width_pos s pos h
  have hd := Lib.decode_at s pos
  rw [hd] at hr
  have B := decodeN_back (s.size - pos) (s.get! pos).toNat (s.get! (pos + 1)).toNat (s.get! (pos + 2)).toNat (s.get! (pos + 3)).toNat (UInt8.toNat_lt _) (UInt8.toNat_lt _) (UInt8.toNat_lt _) (UInt8.toNat_lt _) (by omega) hr
  rw [← hd] at B
  refine ⟨by omega, ?_⟩
  rw [take_of_four (s.data.toList.drop pos) (Utf8.decode s pos).2 (fun k => s.get! (pos + k)) (fun k hk => get_drop s pos k (by omega)) hw hw1]
  unfold Lib.encodeRune
  rw [B.2, List.map_take]
  simp

theorem mk_back (s : ByteArray) : ∀ f pos, s.size ≤ pos + f → (rnsFrom s f pos).all okR = true → mk (rnsFrom s f pos) = s.data.toList.drop pos
  | 0, pos, h, _ => by
    have : s.data.toList.drop pos = [] := List.drop_eq_nil_of_le (by simpa using h)
    rw [this]; rfl
  | f + 1, pos, h, hk => by
    by_cases hp : pos < s.size
    · rw [rnsFrom_step s f pos hp] at hk ⊢
      rw [List.all_cons, Bool.and_eq_true] at hk
      have hr : (Utf8.decode s pos).1 ≠ 65533 := by
        intro e
        have := okR_of hk.1
        rw [e] at this
        omega
      have hw := decode_width_pos s pos hp
      have B := decode_back s pos hp hr
      rw [mk_cons, B.2, mk_back s f _ (by omega) hk.2, ← List.drop_drop, List.take_append_drop]
    · rw [rnsFrom_end s _ pos hp]
      have : s.data.toList.drop pos = [] := List.drop_eq_nil_of_le (by simpa using hp)
      rw [this]; rfl
/-- the text of a text's runes is it -/
theorem mk_rns (s : ByteArray) (h : okT s = true) : mk (rns s) = s.data.toList := by
  have := mk_back s s.size 0 (by omega) h
  rw [List.drop_zero] at this
  exact this
theorem S_data (s : ByteArray) : S s.data.toList = .string s := by cases s; simp
end Go.Proofs.YtnkinbobnhdpaaaDoor
