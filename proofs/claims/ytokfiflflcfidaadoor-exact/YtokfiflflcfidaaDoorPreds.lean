import Derived.Test.YtokfiflflcfidaaDoorRows
import Derived.Test.YtokfiflflcfidaaDoorPlain
import Derived.WalkKit
import Derived.WalkSpells
import Derived.WalkLawsBesides
namespace Go.Proofs.YtokfiflflcfidaaDoor
open Go.RowKit

set_option maxHeartbeats 400000 in
theorem outer_any (e : Nat) (he : e < 14) (w : World) :
    Calls Tryd.prog 53 #[.int .i64 e] w fun r w' => r = .returned (.bool (lT e)) ∧ w' = w := by
  rcases cases14 he with rfl | rfl | rfl | rfl | rfl | rfl | rfl | rfl | rfl | rfl | rfl | rfl | rfl | rfl
  all_goals
    go_enter Tryd.func53, Tryd.ntmps53
    go_wp2
    go_ret
    exact ⟨rfl, rfl⟩

set_option maxHeartbeats 400000 in
theorem moving_any (e : Nat) (he : e < 14) (w : World) :
    Calls Tryd.prog 54 #[.int .i64 e] w fun r w' => r = .returned (.bool (lC e)) ∧ w' = w := by
  rcases cases14 he with rfl | rfl | rfl | rfl | rfl | rfl | rfl | rfl | rfl | rfl | rfl | rfl | rfl | rfl
  all_goals
    go_enter Tryd.func54, Tryd.ntmps54
    go_wp2
    go_ret
    exact ⟨rfl, rfl⟩

set_option maxHeartbeats 400000 in
theorem leavesThread_any (e : Nat) (he : e < 14) (w : World) :
    Calls Tryd.prog 79 #[.int .i64 e] w fun r w' => r = .returned (.bool (lT e)) ∧ w' = w := by
  rcases cases14 he with rfl | rfl | rfl | rfl | rfl | rfl | rfl | rfl | rfl | rfl | rfl | rfl | rfl | rfl
  all_goals
    go_enter Tryd.func79, Tryd.ntmps79
    go_wp2
    go_ret
    exact ⟨rfl, rfl⟩

set_option maxHeartbeats 400000 in
theorem leavesCell_any (e : Nat) (he : e < 14) (w : World) :
    Calls Tryd.prog 80 #[.int .i64 e] w fun r w' => r = .returned (.bool (lC e)) ∧ w' = w := by
  rcases cases14 he with rfl | rfl | rfl | rfl | rfl | rfl | rfl | rfl | rfl | rfl | rfl | rfl | rfl | rfl
  all_goals
    go_enter Tryd.func80, Tryd.ntmps80
    go_wp2
    go_ret
    exact ⟨rfl, rfl⟩

set_option maxHeartbeats 400000 in
theorem endsAtWrite_any (e : Nat) (he : e < 14) (w : World) :
    Calls Tryd.prog 87 #[.int .i64 e] w fun r w' => r = .returned (.bool (eW e)) ∧ w' = w := by
  rcases cases14 he with rfl | rfl | rfl | rfl | rfl | rfl | rfl | rfl | rfl | rfl | rfl | rfl | rfl | rfl
  all_goals
    go_enter Tryd.func87, Tryd.ntmps87
    go_wp2
    go_ret
    exact ⟨rfl, rfl⟩

set_option maxHeartbeats 400000 in
theorem beginsAtWrite_any (e : Nat) (he : e < 14) (w : World) :
    Calls Tryd.prog 88 #[.int .i64 e] w fun r w' => r = .returned (.bool (bW e)) ∧ w' = w := by
  rcases cases14 he with rfl | rfl | rfl | rfl | rfl | rfl | rfl | rfl | rfl | rfl | rfl | rfl | rfl | rfl
  all_goals
    go_enter Tryd.func88, Tryd.ntmps88
    go_wp2
    go_ret
    exact ⟨rfl, rfl⟩

set_option maxHeartbeats 400000 in
theorem joins_any (e d : Nat) (he : e < 14) (hd : d < 14) (w : World) :
    Calls Tryd.prog 85 #[.int .i64 e, .int .i64 d] w fun r w' => r = .returned (.bool (bW e == eW d)) ∧ w' = w := by
  go_enter Tryd.func85, Tryd.ntmps85
  go_wp2_with (first | (go_at_call 87; refine (endsAtWrite_any d hd _).mono ?_; rintro r w1 ⟨rfl, rfl⟩) | (go_at_call 88; refine (beginsAtWrite_any e he _).mono ?_; rintro r w1 ⟨rfl, rfl⟩))
  go_ret
  exact ⟨rfl, rfl⟩

set_option maxHeartbeats 400000 in
theorem num_any (e : Int) (w : World) :
    Calls Tryd.prog 13 #[.int .i64 e] w fun r w' => r = .returned (.int .i64 e) ∧ w' = w := by
  go_enter Tryd.func13, Tryd.ntmps13
  go_wp2
  go_ret
  exact ⟨rfl, rfl⟩

end Go.Proofs.YtokfiflflcfidaaDoor
