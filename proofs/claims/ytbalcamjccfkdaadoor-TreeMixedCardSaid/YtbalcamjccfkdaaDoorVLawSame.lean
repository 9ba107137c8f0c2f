/- TreeBegins, TreeChains, TreeForks, TreeMixed: the walks -/
import Derived.Test.YtbalcamjccfkdaaDoorVSame
import Derived.Test.YtbalcamjccfkdaaDoorVRow5
namespace Go.Proofs.YtbalcamjccfkdaaDoor
open Go.RowKit Go.Lib

set_option maxRecDepth 100000 in
theorem treeBegins_walk (p : AskD) (W : World) (h : AskAt W p) (hT : Tabs W) : Calls Tryd.prog 3 #[p.v] W (BoB true W) := by
  have hb0 : Below W.heap.size W (W.alloc p.obj) := (Below.refl _ _).alloc (Nat.le_refl _) _
  have HB0 := Lib.hid hb0
  have hs : ∀ wx, Tabs wx → Calls Tryd.prog 8 #[p.v, .int .i64 0] wx (BoB true wx) := fun wx hx => same_any p 0 (p.n.length + p.e.length) wx hx (fun n wy hn => row_any0 p n wy hn h.el h.nl)
  have HS := Lib.hid (hs _ (hT.next hb0))
  clear hs hb0 h hT
  unfold AskD.v at HS ⊢
  obtain ⟨lr, le, lo, ln, ar, ae, ao, an, cr, ce, co, cn⟩ := p
  unfold AskD.obj at HB0 HS
  simp only at HB0 HS ⊢
  generalize lr.length = n0 at *
  generalize le.length = n2 at *
  generalize lo.length = n1 at *
  generalize ln.length = n3 at *
  go_enter Tryd.func3, Tryd.ntmps3
  go_wp2_with (first
    | (go_at_call 8; refine HS.out.mono ?_; rintro x1 w1 ⟨rfl, hb1⟩; have HB1 := Lib.hid (HB0.out.trans (hb1.mono HB0.out.size)); clear hb1)
    | fail)
  go_ret
  exact ⟨rfl, HB1.out⟩

set_option maxRecDepth 100000 in
theorem treeChains_walk (p : AskD) (W : World) (h : AskAt W p) (hT : Tabs W) : Calls Tryd.prog 4 #[p.v] W (BoB true W) := by
  have hb0 : Below W.heap.size W (W.alloc p.obj) := (Below.refl _ _).alloc (Nat.le_refl _) _
  have HB0 := Lib.hid hb0
  have hs : ∀ wx, Tabs wx → Calls Tryd.prog 8 #[p.v, .int .i64 1] wx (BoB true wx) := fun wx hx => same_any p 1 (p.n.length + p.e.length) wx hx (fun n wy hn => row_any1 p n wy hn h.el h.nl)
  have HS := Lib.hid (hs _ (hT.next hb0))
  clear hs hb0 h hT
  unfold AskD.v at HS ⊢
  obtain ⟨lr, le, lo, ln, ar, ae, ao, an, cr, ce, co, cn⟩ := p
  unfold AskD.obj at HB0 HS
  simp only at HB0 HS ⊢
  generalize lr.length = n0 at *
  generalize le.length = n2 at *
  generalize lo.length = n1 at *
  generalize ln.length = n3 at *
  go_enter Tryd.func4, Tryd.ntmps4
  go_wp2_with (first
    | (go_at_call 8; refine HS.out.mono ?_; rintro x1 w1 ⟨rfl, hb1⟩; have HB1 := Lib.hid (HB0.out.trans (hb1.mono HB0.out.size)); clear hb1)
    | fail)
  go_ret
  exact ⟨rfl, HB1.out⟩

set_option maxRecDepth 100000 in
theorem treeForks_walk (p : AskD) (W : World) (h : AskAt W p) (hT : Tabs W) : Calls Tryd.prog 5 #[p.v] W (BoB true W) := by
  have hb0 : Below W.heap.size W (W.alloc p.obj) := (Below.refl _ _).alloc (Nat.le_refl _) _
  have HB0 := Lib.hid hb0
  have hs : ∀ wx, Tabs wx → Calls Tryd.prog 8 #[p.v, .int .i64 2] wx (BoB true wx) := fun wx hx => same_any p 2 (p.n.length + p.e.length) wx hx (fun n wy hn => row_any2 p n wy hn h.el h.nl)
  have HS := Lib.hid (hs _ (hT.next hb0))
  clear hs hb0 h hT
  unfold AskD.v at HS ⊢
  obtain ⟨lr, le, lo, ln, ar, ae, ao, an, cr, ce, co, cn⟩ := p
  unfold AskD.obj at HB0 HS
  simp only at HB0 HS ⊢
  generalize lr.length = n0 at *
  generalize le.length = n2 at *
  generalize lo.length = n1 at *
  generalize ln.length = n3 at *
  go_enter Tryd.func5, Tryd.ntmps5
  go_wp2_with (first
    | (go_at_call 8; refine HS.out.mono ?_; rintro x1 w1 ⟨rfl, hb1⟩; have HB1 := Lib.hid (HB0.out.trans (hb1.mono HB0.out.size)); clear hb1)
    | fail)
  go_ret
  exact ⟨rfl, HB1.out⟩

set_option maxRecDepth 100000 in
theorem treeMixed_walk (p : AskD) (W : World) (h : AskAt W p) (hT : Tabs W) : Calls Tryd.prog 6 #[p.v] W (BoB true W) := by
  have hb0 : Below W.heap.size W (W.alloc p.obj) := (Below.refl _ _).alloc (Nat.le_refl _) _
  have HB0 := Lib.hid hb0
  have hs : ∀ wx, Tabs wx → Calls Tryd.prog 8 #[p.v, .int .i64 5] wx (BoB true wx) := fun wx hx => same_any p 5 (p.n.length + p.e.length) wx hx (fun n wy hn => row_any5 p n wy hn h.el h.nl)
  have HS := Lib.hid (hs _ (hT.next hb0))
  clear hs hb0 h hT
  unfold AskD.v at HS ⊢
  obtain ⟨lr, le, lo, ln, ar, ae, ao, an, cr, ce, co, cn⟩ := p
  unfold AskD.obj at HB0 HS
  simp only at HB0 HS ⊢
  generalize lr.length = n0 at *
  generalize le.length = n2 at *
  generalize lo.length = n1 at *
  generalize ln.length = n3 at *
  go_enter Tryd.func6, Tryd.ntmps6
  go_wp2_with (first
    | (go_at_call 8; refine HS.out.mono ?_; rintro x1 w1 ⟨rfl, hb1⟩; have HB1 := Lib.hid (HB0.out.trans (hb1.mono HB0.out.size)); clear hb1)
    | fail)
  go_ret
  exact ⟨rfl, HB1.out⟩
end Go.Proofs.YtbalcamjccfkdaaDoor
