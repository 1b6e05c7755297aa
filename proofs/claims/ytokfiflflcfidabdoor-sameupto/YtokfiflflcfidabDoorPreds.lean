import Derived.Test.YtokfiflflcfidabDoorRows
import Derived.Test.YtokfiflflcfidabDoorPlain
import Derived.WalkKit
import Derived.WalkSpells
import Derived.WalkLawsBesides
namespace Go.Proofs.YtokfiflflcfidabDoor
open Go.RowKit

set_option maxHeartbeats 400000 in
theorem outer_any (e : Nat) (he : e < 14) (w : World) :
    Calls Tryd.prog 58 #[.int .i64 e] w fun r w' => r = .returned (.bool (lT e)) ∧ w' = w := by
  rcases cases14 he with rfl | rfl | rfl | rfl | rfl | rfl | rfl | rfl | rfl | rfl | rfl | rfl | rfl | rfl
  all_goals
    go_enter Tryd.func58, Tryd.ntmps58
    go_wp2
    go_ret
    exact ⟨rfl, rfl⟩

set_option maxHeartbeats 400000 in
theorem moving_any (e : Nat) (he : e < 14) (w : World) :
    Calls Tryd.prog 42 #[.int .i64 e] w fun r w' => r = .returned (.bool (lC e)) ∧ w' = w := by
  rcases cases14 he with rfl | rfl | rfl | rfl | rfl | rfl | rfl | rfl | rfl | rfl | rfl | rfl | rfl | rfl
  all_goals
    go_enter Tryd.func42, Tryd.ntmps42
    go_wp2
    go_ret
    exact ⟨rfl, rfl⟩

set_option maxHeartbeats 400000 in
theorem leavesThread_any (e : Nat) (he : e < 14) (w : World) :
    Calls Tryd.prog 54 #[.int .i64 e] w fun r w' => r = .returned (.bool (lT e)) ∧ w' = w := by
  rcases cases14 he with rfl | rfl | rfl | rfl | rfl | rfl | rfl | rfl | rfl | rfl | rfl | rfl | rfl | rfl
  all_goals
    go_enter Tryd.func54, Tryd.ntmps54
    go_wp2
    go_ret
    exact ⟨rfl, rfl⟩

set_option maxHeartbeats 400000 in
theorem leavesCell_any (e : Nat) (he : e < 14) (w : World) :
    Calls Tryd.prog 55 #[.int .i64 e] w fun r w' => r = .returned (.bool (lC e)) ∧ w' = w := by
  rcases cases14 he with rfl | rfl | rfl | rfl | rfl | rfl | rfl | rfl | rfl | rfl | rfl | rfl | rfl | rfl
  all_goals
    go_enter Tryd.func55, Tryd.ntmps55
    go_wp2
    go_ret
    exact ⟨rfl, rfl⟩

set_option maxHeartbeats 400000 in
theorem endsAtWrite_any (e : Nat) (he : e < 14) (w : World) :
    Calls Tryd.prog 94 #[.int .i64 e] w fun r w' => r = .returned (.bool (eW e)) ∧ w' = w := by
  rcases cases14 he with rfl | rfl | rfl | rfl | rfl | rfl | rfl | rfl | rfl | rfl | rfl | rfl | rfl | rfl
  all_goals
    go_enter Tryd.func94, Tryd.ntmps94
    go_wp2
    go_ret
    exact ⟨rfl, rfl⟩

set_option maxHeartbeats 400000 in
theorem beginsAtWrite_any (e : Nat) (he : e < 14) (w : World) :
    Calls Tryd.prog 80 #[.int .i64 e] w fun r w' => r = .returned (.bool (bW e)) ∧ w' = w := by
  rcases cases14 he with rfl | rfl | rfl | rfl | rfl | rfl | rfl | rfl | rfl | rfl | rfl | rfl | rfl | rfl
  all_goals
    go_enter Tryd.func80, Tryd.ntmps80
    go_wp2
    go_ret
    exact ⟨rfl, rfl⟩

set_option maxHeartbeats 400000 in
theorem joins_any (e d : Nat) (he : e < 14) (hd : d < 14) (w : World) :
    Calls Tryd.prog 92 #[.int .i64 e, .int .i64 d] w fun r w' => r = .returned (.bool (bW e == eW d)) ∧ w' = w := by
  go_enter Tryd.func92, Tryd.ntmps92
  go_wp2_with (first | (go_at_call 94; refine (endsAtWrite_any d hd _).mono ?_; rintro r w1 ⟨rfl, rfl⟩) | (go_at_call 80; refine (beginsAtWrite_any e he _).mono ?_; rintro r w1 ⟨rfl, rfl⟩))
  go_ret
  exact ⟨rfl, rfl⟩

set_option maxHeartbeats 400000 in
theorem num_any (e : Int) (w : World) :
    Calls Tryd.prog 11 #[.int .i64 e] w fun r w' => r = .returned (.int .i64 e) ∧ w' = w := by
  go_enter Tryd.func11, Tryd.ntmps11
  go_wp2
  go_ret
  exact ⟨rfl, rfl⟩

end Go.Proofs.YtokfiflflcfidabDoor
