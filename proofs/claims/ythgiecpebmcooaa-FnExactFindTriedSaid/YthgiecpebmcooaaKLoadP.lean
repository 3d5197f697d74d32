/-
  The program's functions of loads, by their answers.
-/
import Derived.Test.YthgiecpebmcooaaKLoadF
import Derived.Test.YthgiecpebmcooaaZBF
import Derived.Test.YthgiecpebmcooaaCJcP
import Derived.Test.YthgiecpebmcooaaZPI
import Derived.Test.YthgiecpebmcooaaCFtP
namespace Go.Proofs.Ythgiecpebmcooaa
open Go.RowKit

theorem implValidLoads_fn : LoadBFn 12 loadB := fun l a cv w _ hR _ hl _ =>
  (implValidLoads_rd l a cv w hR hl).mono fun e w' q => ⟨q.1, by rw [← q.2]; exact Below.refl _ _⟩
theorem implJoinCost_fn : LoadFn 15 jcI := fun l a cv w _ hR _ hl _ => implJoinCost_any l a cv w hR hl
theorem implBesideCost_fn : LoadFn 19 bcI := fun l a cv w _ hR hH hl hcv => implBesideCost_any l a cv w hR hH hl hcv
theorem implFindCost_fn : LoadFn 21 fcI := fun l a cv w _ hR hH hl hcv => implFindCost_any l a cv w hR hH hl hcv
theorem implJoinTried_fn : LoadFn 17 jtI := fun l a cv w _ hR hH hl hcv => implJoinTried_any l a cv w hR hH hl hcv
theorem implFindTried_fn : LoadFn 25 ftI := fun l a cv w _ hR hH hl _ => implFindTried_any l a cv w hR hH hl
theorem implFindBy_fn : FindFn 23 := fun l a cv s w _ hR hH hl _ hs => implFindBy_any l a cv s w hR hH hl hs
end Go.Proofs.Ythgiecpebmcooaa
