/- A row of ops of the call's own. -/
import Derived.Test.YthnedehihbploaaGreatDoorTCheck
import Derived.Test.YthnedehihbploaaGreatDoorTPages
import Derived.Maps.AppendAt
namespace Go.Proofs.YthnedehihbploaaGreatDoor
open Go.RowKit Go.Lib

theorem Tryz.infoOp : (Tryz.prog.info? 39).map (fun i => (i.zero, i.size, i.bytes)) = some (some (.agg #[.int .i64 0, .int .i64 0, .int .i64 0, .int .i64 0, .int .i64 0, .int .i64 0, .string ⟨#[]⟩, .slice none 0 0, .int .i64 0, .int .i64 0, .int .i64 0]), 11, 112) := by kernel_rfl
/-- ops as cells -/
def ocs (L : List OpR) : List Value := L.flatMap OpR.cs
theorem ocs_append (a b : List OpR) : ocs (a ++ b) = ocs a ++ ocs b := by simp [ocs]
theorem ocs_one (r : OpR) : ocs [r] = r.cs := by simp [ocs]
theorem ocs_get (l : List OpR) (j c : Nat) (h : j < l.length) (hc : c < 11) : (ocs l)[j * 11 + c]? = (l[j].cs)[c]? := by
  induction l generalizing j with
  | nil => exact absurd h (by simp)
  | cons e l ih =>
    show (OpR.cs e ++ ocs l)[j * 11 + c]? = _
    cases j with
    | zero =>
      rw [List.getElem?_append_left (by show 0 * 11 + c < 11; omega)]
      simp
    | succ j =>
      rw [List.getElem?_append_right (by show 11 ≤ _; omega)]
      have : (j + 1) * 11 + c - (OpR.cs e).length = j * 11 + c := by show (j + 1) * 11 + c - 11 = _; omega
      rw [this, ih j (by simpa using h)]
      simp
theorem ops_own {w : World} {base : Nat} {v : Value} {L : List OpR} (h : w.ownsRow base 39 11 v L.length (ocs L)) (hop : ∀ r ∈ L, OpAt w r.o r.a r.cap) (hl : L.length ≤ BIG) :
    ∃ a c, v = .slice a L.length c ∧ OpsAt w a L ∧ L.length ≤ c := by
  rcases h.2 with ⟨hv, h0⟩ | ⟨g, cap, cur, hv, hg, hh, hc, hm, hcs, ht⟩
  · exact ⟨none, 0, by rw [hv, h0], ⟨fun j hj => by omega, fun j hj => by omega, hl⟩, by omega⟩
  · refine ⟨_, cap, hv, ⟨fun j hj => ⟨g, 0, rfl, (Array.getElem?_eq_some_iff.1 hh).1, fun c u hu => ?_⟩, fun j hj => hop _ (List.getElem_mem hj), hl⟩, hc⟩
    have hc11 : c < 11 := (List.getElem?_eq_some_iff.1 hu).1
    subst hv
    rw [Nat.zero_add, h.cellAt (j * 11 + c) (by omega), ocs_get L j c hj hc11]
    exact hu
/-- an op that takes nothing away -/
def mkR (o : OpD) : OpR := ⟨o, none, 0⟩
theorem mk_at {o : OpD} (hg : o.gone = []) (hs : o.text.size ≤ BIG) (w : World) : OpAt w (mkR o).o (mkR o).a (mkR o).cap := by
  refine ⟨?_, ?_, hs, fun _ => ⟨?_, rfl⟩⟩
  · show ElemsAt w none o.gone
    rw [hg]; exact ElemsAt.nil none
  · show o.gone.length ≤ BIG
    rw [hg]; exact Nat.zero_le _
  · show o.gone.length = 0
    rw [hg]; rfl
theorem cs_oneO (o : OpD) : ∀ u ∈ (mkR o).cs, u.oneCell' = true := by
  intro u hu
  unfold OpR.cs mkR OpD.cs at hu
  simp only [List.mem_cons, List.not_mem_nil, or_false] at hu
  rcases hu with rfl | rfl | rfl | rfl | rfl | rfl | rfl | rfl | rfl | rfl | rfl <;> rfl
theorem cell_op_new (w : World) (o : OpD) (t : TypeId) : ∀ j u, ((mkR o).cs)[j]? = some u → (w.alloc (.cells #[.int .i64 o.site, .int .i64 o.seq, .int .i64 o.kind, .int .i64 o.after.s, .int .i64 o.after.q, .int .i64 o.after.i, .string o.text, .slice none o.gone.length 0, .int .i64 o.of, .int .i64 o.num, .int .i64 o.gen] t)).cell? ((⟨w.heap.size, 0, none⟩ : Addr).add j) = some u := by
  intro j u hu
  rw [Addr.add_lit, Nat.zero_add, World.cell?_alloc_new, ← hu]
  unfold mkR OpR.cs OpD.cs
  simp
theorem os_mk (L : List OpD) : OpR.os (L.map mkR) = L := by simp [OpR.os, mkR, Function.comp_def]
end Go.Proofs.YthnedehihbploaaGreatDoor
