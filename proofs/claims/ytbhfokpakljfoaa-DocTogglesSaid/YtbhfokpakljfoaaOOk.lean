/- The page's own word on which ops may be: toggles; ops of no kind; edits that bear what toggles have. -/
import Derived.Test.YtbhfokpakljfoaaOCopy
import Derived.Test.YtbhfokpakljfoaaOBox
import Derived.Laws.Closers25b
namespace Go.Proofs.Ytbhfokpakljfoaa
open Go.RowKit Go.Lib

def okTog (o : OpD) : Bool := nameB o.site o.seq && (nameB o.of o.num && (decide (¬ (o.of = o.site ∧ o.num = o.seq)) && (btw o.gen 0 268435456 && (o.after.begin && (decide (o.text = ⟨#[]⟩) && decide (o.gone.length = 0))))))

/-- what an edit must be ahead of its text: true where the page goes on to the text -/
def okHead (o : OpD) : Bool := nameB o.site o.seq && (decide (o.of = 0) && (decide (o.num = 0) && (decide (o.gen = 0) && (decide (o.gone.length ≤ 200) && !(decide (o.text = ⟨#[]⟩) && decide (o.gone.length = 0))))))

end Go.Proofs.Ytbhfokpakljfoaa
