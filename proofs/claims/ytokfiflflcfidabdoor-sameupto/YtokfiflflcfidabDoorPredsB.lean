import Derived.Test.YtokfiflflcfidabDoorRows
import Derived.Test.YtokfiflflcfidabDoorPlain
import Derived.Test.YtokfiflflcfidabDoorCdM
import Derived.Test.YtokfiflflcfidabDoorPreds
import Derived.WalkKit
import Derived.WalkSpells
import Derived.WalkLawsBesides
namespace Go.Proofs.YtokfiflflcfidabDoor
open Go.RowKit

set_option maxHeartbeats 400000 in
theorem isFence_any (e : Nat) (he : e < 14) (w : World) :
    Calls Tryd.prog 84 #[.int .i64 e] w fun r w' => r = .returned (.bool (fE e)) ∧ w' = w := by
  rcases cases14 he with rfl | rfl | rfl | rfl | rfl | rfl | rfl | rfl | rfl | rfl | rfl | rfl | rfl | rfl
  all_goals
    go_enter Tryd.func84, Tryd.ntmps84
    go_wp2
    go_ret
    exact ⟨rfl, rfl⟩

set_option maxHeartbeats 400000 in
theorem isRfP_any (e : Nat) (he : e < 14) (w : World) :
    Calls Tryd.prog 96 #[.int .i64 e] w fun r w' => r = .returned (.bool (isRf e)) ∧ w' = w := by
  rcases cases14 he with rfl | rfl | rfl | rfl | rfl | rfl | rfl | rfl | rfl | rfl | rfl | rfl | rfl | rfl
  all_goals
    go_enter Tryd.func96, Tryd.ntmps96
    go_wp2
    go_ret
    exact ⟨rfl, rfl⟩

set_option maxHeartbeats 400000 in
theorem isFrP_any (e : Nat) (he : e < 14) (w : World) :
    Calls Tryd.prog 97 #[.int .i64 e] w fun r w' => r = .returned (.bool (isFr e)) ∧ w' = w := by
  rcases cases14 he with rfl | rfl | rfl | rfl | rfl | rfl | rfl | rfl | rfl | rfl | rfl | rfl | rfl | rfl
  all_goals
    go_enter Tryd.func97, Tryd.ntmps97
    go_wp2
    go_ret
    exact ⟨rfl, rfl⟩

end Go.Proofs.YtokfiflflcfidabDoor
