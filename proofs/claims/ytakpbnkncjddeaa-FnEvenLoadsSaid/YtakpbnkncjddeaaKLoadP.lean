/-
  The program's functions of loads, by their answers.
-/
import Derived.Test.YtakpbnkncjddeaaKLoadF
import Derived.Test.YtakpbnkncjddeaaZBF
import Derived.Test.YtakpbnkncjddeaaCJcP
import Derived.Test.YtakpbnkncjddeaaZPI
import Derived.Test.YtakpbnkncjddeaaCFtP
namespace Go.Proofs.Ytakpbnkncjddeaa
open Go.RowKit

theorem implValidLoads_fn : LoadBFn 13 loadB := fun l a cv w _ hR _ hl _ =>
  (implValidLoads_rd l a cv w hR hl).mono fun e w' q => ⟨q.1, by rw [← q.2]; exact Below.refl _ _⟩
theorem implJoinCost_fn : LoadFn 17 jcI := fun l a cv w _ hR _ hl _ => implJoinCost_any l a cv w hR hl
theorem implBesideCost_fn : LoadFn 20 bcI := fun l a cv w _ hR hH hl hcv => implBesideCost_any l a cv w hR hH hl hcv
theorem implFindCost_fn : LoadFn 26 fcI := fun l a cv w _ hR hH hl hcv => implFindCost_any l a cv w hR hH hl hcv
theorem implJoinTried_fn : LoadFn 19 jtI := fun l a cv w _ hR hH hl hcv => implJoinTried_any l a cv w hR hH hl hcv
theorem implFindTried_fn : LoadFn 28 ftI := fun l a cv w _ hR hH hl _ => implFindTried_any l a cv w hR hH hl
theorem implFindBy_fn : FindFn 31 := fun l a cv s w _ hR hH hl _ hs => implFindBy_any l a cv s w hR hH hl hs
end Go.Proofs.Ytakpbnkncjddeaa
