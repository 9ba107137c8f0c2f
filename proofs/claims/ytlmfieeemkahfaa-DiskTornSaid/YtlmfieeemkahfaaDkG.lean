/- disk.New, Put; the page's Put -/
import Derived.Test.YtlmfieeemkahfaaDkF
namespace Go.Proofs.Ytlmfieeemkahfaa
open Go.RowKit Go.Lib

theorem fin2 {t : TypeId} {w w9 : World} {r b1 b2 : Nat} {x0 y0 : Value} {d : DkD} {v u : Value} (hr : Hp t w9 r #[x0, y0]) (hs : OwnS b1 w9 v d.safe) (hw : OwnE b2 w9 u d.wait) (h1 : r < b1) (h2 : r < b2) (h0 : w.heap.size ≤ r) (hb : Below w.heap.size w w9) :
    ((w9.setCell ⟨r, 0, none⟩ v).setCell ⟨r, 1, none⟩ u).cell? ⟨r, 0, none⟩ = some v ∧ ((w9.setCell ⟨r, 0, none⟩ v).setCell ⟨r, 1, none⟩ u).cell? ⟨r, 1, none⟩ = some u ∧ DkOwn w.heap.size ((w9.setCell ⟨r, 0, none⟩ v).setCell ⟨r, 1, none⟩ u) d v u ∧ Below w.heap.size w ((w9.setCell ⟨r, 0, none⟩ v).setCell ⟨r, 1, none⟩ u) := by
  have h9 := (hr.set 0 v).set 1 u
  refine ⟨h9.cell 0 rfl, h9.cell 1 rfl, ⟨((hs.set (p := ⟨r, 0, none⟩) h1 v).set (p := ⟨r, 1, none⟩) h1 u).base (by omega), ((hw.set (p := ⟨r, 0, none⟩) h2 v).set (p := ⟨r, 1, none⟩) h2 u).base (by omega)⟩, (hb.setCell (p := ⟨r, 0, none⟩) h0 v).setCell (p := ⟨r, 1, none⟩) h0 u⟩
/-- what New tells -/
def newD (n : Nat) : DkD := ⟨List.replicate n (zerS 32), []⟩
set_option maxRecDepth 100000 in
set_option maxHeartbeats 4000000 in
theorem New_any (n : Int) (w : World) : Calls Try.prog 10 #[.int .i64 n] w (DkE (if btw n 1 400 then newD n.toNat else noD) (if btw n 1 400 then 0 else 1) w) := by
  have HR0 := Lib.hid (Hp.new w #[.slice none 0 0, .slice none 0 0] 25)
  have HB0 := Lib.hid (below_al w (.cells #[.slice none 0 0, .slice none 0 0] 25))
  have hz0 : (w.alloc (.cells #[.slice none 0 0, .slice none 0 0] 25)).heap.size = w.heap.size + 1 := World.size_alloc _ _
  by_cases h1 : 1 ≤ n
  · by_cases h2 : n ≤ 400
    · have hb : btw n 1 400 = true := decide_eq_true ⟨h1, h2⟩
      rw [hb, if_pos rfl, if_pos rfl]
      obtain ⟨m, rfl⟩ : ∃ m : Nat, n = m := ⟨n.toNat, by omega⟩
      rw [show ((m : Int)).toNat = m from rfl]
      have hm1 : 1 ≤ m := by omega
      have hm2 : m ≤ 400 := by omega
      have HBL := Lib.hid (fun wx => blank_any wx)
      have HREP := Lib.hid (fun g wx hg => sRep_any g 1 m (zerS 32) wx hg hm1 (Nat.le_trans hm2 (by decide)) (by rw [zerS_size]; decide))
      have hno1 : ¬ ((m : Int) < 1) := by omega
      have hno2 : ¬ ((400 : Int) < (m : Int)) := by omega
      unfold newD
      generalize zerS 32 = Z at *
      clear hb h1 h2 hm1 hm2
      go_enter Try.func10, Try.ntmps10
      go_upto_region 3 with fail
      obtain ⟨r, hr⟩ : ∃ r, w.heap.size = r := ⟨_, rfl⟩
      rw [hr] at HR0
      generalize w.alloc (.cells #[.slice none 0 0, .slice none 0 0] 25) = w1 at *
      go_wp2_with (first
        | (go_at_call 27; refine (HBL.out _).mono ?_; rintro e w2 ⟨rfl, hb2⟩; have HR2 := Lib.hid (HR0.out.step hb2); have HB2 := Lib.hid (HB0.out.trans (hb2.mono HB0.out.size)); have HS2 := Lib.hid (show r < w2.heap.size from HR2.out.lt); have HG2 := Lib.hid (Hp.new w2 #[.string Z] 9); have HR3 := Lib.hid (HR2.out.step (below_al w2 (.cells #[.string Z] 9))); have HB3 := Lib.hid (below_alx (w1 := w) HB2.out (.cells #[.string Z] 9)); clear hb2)
        | (go_at_call 26; refine (HREP.out _ _ HG2.out).mono ?_; rintro e w4 ⟨v4, rfl, how4, hb4⟩; obtain ⟨a4, c4, hv4, _, _, _⟩ := how4.at_; rw [List.length_replicate] at hv4; subst hv4; have HO4 := Lib.hid how4; have HR4 := Lib.hid (HR3.out.step hb4); have HB4 := Lib.hid (HB3.out.trans (hb4.mono HB3.out.size)); have p0 := HR4.out.cell 0 rfl; have p1 := HR4.out.cell 1 rfl; have f0 := HR4.out.fr 0; have f1 := HR4.out.fr 1; clear how4 hb4)
        | fail)
      obtain ⟨u0, u1, hO, hB⟩ := fin2 (w := w) (d := ⟨List.replicate m Z, []⟩) HR4.out HO4.out (noE_own (w2.alloc (.cells #[.string Z] 9)).heap.size w4) (by rw [World.size_alloc]; have := HS2.out; omega) (by rw [World.size_alloc]; have := HS2.out; omega) (by omega) HB4.out
      refine bodyPost_ret (v := .tuple #[.agg #[.slice a4 m c4, .slice none 0 0], .int .i64 0]) (by simp [results, Try.results10, go_sem, u0, u1]) rfl ⟨_, _, rfl, hO, hB⟩
    · have hb : btw n 1 400 = false := decide_eq_false (fun h => h2 h.2)
      rw [hb, if_neg (by simp), if_neg (by simp)]
      have hno1 : ¬ (n < 1) := by omega
      have hno2 : (400 : Int) < n := by omega
      clear hb h1 h2
      go_enter Try.func10, Try.ntmps10
      go_wp2_with fail
      refine bodyPost_ret (v := .tuple #[.agg #[.slice none 0 0, .slice none 0 0], .int .i64 1]) (by simp [results, Try.results10, go_sem]) rfl ⟨_, _, rfl, noD_own _ _, HB0.out⟩
  · have hb : btw n 1 400 = false := decide_eq_false (fun h => h1 h.1)
    rw [hb, if_neg (by simp), if_neg (by simp)]
    have hno1 : n < 1 := by omega
    clear hb h1
    go_enter Try.func10, Try.ntmps10
    go_wp2_with fail
    refine bodyPost_ret (v := .tuple #[.agg #[.slice none 0 0, .slice none 0 0], .int .i64 1]) (by simp [results, Try.results10, go_sem]) rfl ⟨_, _, rfl, noD_own _ _, HB0.out⟩
end Go.Proofs.Ytlmfieeemkahfaa
