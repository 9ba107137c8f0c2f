/- which ops may be: the plain mathematics -/
import Derived.Test.YtnkinbobnhdpaaaDoorOBase
import Derived.Laws.Closers25b
namespace Go.Proofs.YtnkinbobnhdpaaaDoor
open Go.RowKit Go.Lib

theorem decodeN_four (n b0 b1 b2 b3 : Nat) : (decodeN n b0 b1 b2 b3).2 ≤ 4 := by
  unfold decodeN
  repeat' split
  all_goals simp
theorem decode_four (s : ByteArray) (pos : Nat) : (Utf8.decode s pos).2 ≤ 4 := by
  rw [Lib.decode_at]; exact decodeN_four _ _ _ _ _
theorem rnsFrom_four (s : ByteArray) : ∀ f pos, s.size ≤ pos + f → s.size ≤ pos + 4 * (rnsFrom s f pos).length
  | 0, pos, h => by omega
  | f + 1, pos, h => by
    by_cases hp : pos < s.size
    · have h1 := decode_width_pos s pos hp
      have h2 := decode_four s pos
      have := rnsFrom_four s f (pos + (Utf8.decode s pos).2) (by omega)
      rw [rnsFrom_step s f pos hp, List.length_cons]
      omega
    · omega
/-- may a text be an op's? -/
def okTx (s : ByteArray) : Bool := okT s && decide ((rns s).length ≤ 12)
theorem okTx_size {s : ByteArray} (h : okTx s = true) : s.size ≤ 48 := by
  unfold okTx at h
  have h1 := rnsFrom_four s s.size 0 (by omega)
  have h2 : (rns s).length ≤ 12 := by simp at h; exact h.2
  unfold rns at h2
  omega

def emptyB (s : ByteArray) : Bool := decide (s = ⟨#[]⟩)
theorem rns_zero {s : ByteArray} : (rns s).length = 0 ↔ s = ⟨#[]⟩ := by
  constructor
  · intro h
    have h1 := rnsFrom_four s s.size 0 (by omega)
    unfold rns at h
    have h2 : s.size = 0 := by omega
    have h3 : s.data = #[] := Array.eq_empty_of_size_eq_zero h2
    cases s with
    | mk d => simp only at h3; rw [h3]
  · rintro rfl; rfl
/-- is what goes rising, of others, each one that may be? p: the one ahead -/
def pairOk : Option El → El → Bool
  | none, _ => true
  | some p, e => p.lt e
def gOk (s q : Int) : Option El → List El → Bool
  | _, [] => true
  | p, e :: r => !e.begin && (e.ok && (!e.own s q && (pairOk p e && gOk s q (some e) r)))
def prevE (l : List El) : Nat → Option El
  | 0 => none
  | k + 1 => l[k]?
theorem gOk_step (s q : Int) (l : List El) (k : Nat) (h : k < l.length) : gOk s q (prevE l k) (l.drop k) = (!l[k].begin && (l[k].ok && (!l[k].own s q && (pairOk (prevE l k) l[k] && gOk s q (prevE l (k + 1)) (l.drop (k + 1)))))) := by
  rw [List.drop_eq_getElem_cons h, gOk]
  simp [prevE, h]
theorem gOk_end (s q : Int) (l : List El) (k : Nat) (h : l.length ≤ k) (p : Option El) : gOk s q p (l.drop k) = true := by
  rw [List.drop_eq_nil_of_le h]; rfl

def OpD.head (o : OpD) : Bool := decide (o.of = 0) && (decide (o.num = 0) && decide (o.gen = 0))
def OpD.none (o : OpD) : Bool := emptyB o.text && decide (o.gone.length = 0)
def okAfter (o : OpD) : Bool := if o.text = ⟨#[]⟩ then o.after.begin else o.after.ok && !o.after.own o.site o.seq
def okGone (o : OpD) : Bool := decide (o.gone.length ≤ 200) && gOk o.site o.seq none o.gone
def okEdit (o : OpD) : Bool := o.head && (!o.none && (okTx o.text && (okAfter o && okGone o)))
def okToggle (o : OpD) : Bool := o.after.begin && (emptyB o.text && (decide (o.gone.length = 0) && (!decide (o.of = o.site ∧ o.num = o.seq) && (nameB o.of o.num && btw o.gen 0 268435456))))
def okOp (o : OpD) : Bool := nameB o.site o.seq && (if o.kind = 1 then okEdit o else if o.kind = 2 then okToggle o else false)
end Go.Proofs.YtnkinbobnhdpaaaDoor
