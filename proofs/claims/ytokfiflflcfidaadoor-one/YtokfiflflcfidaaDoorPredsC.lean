import Derived.Test.YtokfiflflcfidaaDoorRows
import Derived.Test.YtokfiflflcfidaaDoorPlain
import Derived.Test.YtokfiflflcfidaaDoorCdM
import Derived.Test.YtokfiflflcfidaaDoorPreds
import Derived.WalkKit
import Derived.WalkSpells
import Derived.WalkLawsBesides
namespace Go.Proofs.YtokfiflflcfidaaDoor
open Go.RowKit

set_option maxHeartbeats 400000 in
theorem rfR_any (e : Nat) (he : e < 14) (w : World) :
    Calls Tryd.prog 47 #[.int .i64 e] w fun r w' => r = .returned (.bool (isRf e)) ∧ w' = w := by
  rcases cases14 he with rfl | rfl | rfl | rfl | rfl | rfl | rfl | rfl | rfl | rfl | rfl | rfl | rfl | rfl
  all_goals
    go_enter Tryd.func47, Tryd.ntmps47
    go_wp2
    go_ret
    exact ⟨rfl, rfl⟩

set_option maxHeartbeats 400000 in
theorem coR_any (e : Nat) (he : e < 14) (w : World) :
    Calls Tryd.prog 48 #[.int .i64 e] w fun r w' => r = .returned (.bool (isCo e)) ∧ w' = w := by
  rcases cases14 he with rfl | rfl | rfl | rfl | rfl | rfl | rfl | rfl | rfl | rfl | rfl | rfl | rfl | rfl
  all_goals
    go_enter Tryd.func48, Tryd.ntmps48
    go_wp2
    go_ret
    exact ⟨rfl, rfl⟩

set_option maxHeartbeats 400000 in
theorem frR_any (e : Nat) (he : e < 14) (w : World) :
    Calls Tryd.prog 49 #[.int .i64 e] w fun r w' => r = .returned (.bool (isFr e)) ∧ w' = w := by
  rcases cases14 he with rfl | rfl | rfl | rfl | rfl | rfl | rfl | rfl | rfl | rfl | rfl | rfl | rfl | rfl
  all_goals
    go_enter Tryd.func49, Tryd.ntmps49
    go_wp2
    go_ret
    exact ⟨rfl, rfl⟩

end Go.Proofs.YtokfiflflcfidaaDoor
