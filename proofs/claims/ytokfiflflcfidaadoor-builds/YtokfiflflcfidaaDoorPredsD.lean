import Derived.Test.YtokfiflflcfidaaDoorRows
import Derived.Test.YtokfiflflcfidaaDoorPlain
import Derived.Test.YtokfiflflcfidaaDoorCdM
import Derived.Test.YtokfiflflcfidaaDoorPreds
import Derived.WalkKit
import Derived.WalkSpells
import Derived.WalkLawsBesides
namespace Go.Proofs.YtokfiflflcfidaaDoor
open Go.RowKit

set_option maxHeartbeats 400000 in
theorem fencedR_any (e : Nat) (he : e < 14) (w : World) :
    Calls Tryd.prog 70 #[.int .i64 e] w fun r w' => r = .returned (.bool (fE e)) ∧ w' = w := by
  rcases cases14 he with rfl | rfl | rfl | rfl | rfl | rfl | rfl | rfl | rfl | rfl | rfl | rfl | rfl | rfl
  all_goals
    go_enter Tryd.func70, Tryd.ntmps70
    go_wp2
    go_ret
    exact ⟨rfl, rfl⟩

end Go.Proofs.YtokfiflflcfidaaDoor
