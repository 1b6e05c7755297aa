import Derived.Test.YtmhkikaanaocdabDoorRows
import Derived.Test.YtmhkikaanaocdabDoorPlain
import Derived.WalkKit
import Derived.WalkSpells
import Derived.WalkLawsBesides
namespace Go.Proofs.YtmhkikaanaocdabDoor
open Go.RowKit

set_option maxHeartbeats 400000 in
theorem outer_any (e : Nat) (he : e < 14) (w : World) :
    Calls Tryd.prog 42 #[.int .i64 e] w fun r w' => r = .returned (.bool (lT e)) ∧ w' = w := by
  rcases cases14 he with rfl | rfl | rfl | rfl | rfl | rfl | rfl | rfl | rfl | rfl | rfl | rfl | rfl | rfl
  all_goals
    go_enter Tryd.func42, Tryd.ntmps42
    go_wp2
    go_ret
    exact ⟨rfl, rfl⟩

set_option maxHeartbeats 400000 in
theorem moving_any (e : Nat) (he : e < 14) (w : World) :
    Calls Tryd.prog 33 #[.int .i64 e] w fun r w' => r = .returned (.bool (lC e)) ∧ w' = w := by
  rcases cases14 he with rfl | rfl | rfl | rfl | rfl | rfl | rfl | rfl | rfl | rfl | rfl | rfl | rfl | rfl
  all_goals
    go_enter Tryd.func33, Tryd.ntmps33
    go_wp2
    go_ret
    exact ⟨rfl, rfl⟩

set_option maxHeartbeats 400000 in
theorem leavesThread_any (e : Nat) (he : e < 14) (w : World) :
    Calls Tryd.prog 67 #[.int .i64 e] w fun r w' => r = .returned (.bool (lT e)) ∧ w' = w := by
  rcases cases14 he with rfl | rfl | rfl | rfl | rfl | rfl | rfl | rfl | rfl | rfl | rfl | rfl | rfl | rfl
  all_goals
    go_enter Tryd.func67, Tryd.ntmps67
    go_wp2
    go_ret
    exact ⟨rfl, rfl⟩

set_option maxHeartbeats 400000 in
theorem leavesCell_any (e : Nat) (he : e < 14) (w : World) :
    Calls Tryd.prog 68 #[.int .i64 e] w fun r w' => r = .returned (.bool (lC e)) ∧ w' = w := by
  rcases cases14 he with rfl | rfl | rfl | rfl | rfl | rfl | rfl | rfl | rfl | rfl | rfl | rfl | rfl | rfl
  all_goals
    go_enter Tryd.func68, Tryd.ntmps68
    go_wp2
    go_ret
    exact ⟨rfl, rfl⟩

set_option maxHeartbeats 400000 in
theorem endsAtWrite_any (e : Nat) (he : e < 14) (w : World) :
    Calls Tryd.prog 75 #[.int .i64 e] w fun r w' => r = .returned (.bool (eW e)) ∧ w' = w := by
  rcases cases14 he with rfl | rfl | rfl | rfl | rfl | rfl | rfl | rfl | rfl | rfl | rfl | rfl | rfl | rfl
  all_goals
    go_enter Tryd.func75, Tryd.ntmps75
    go_wp2
    go_ret
    exact ⟨rfl, rfl⟩

set_option maxHeartbeats 400000 in
theorem beginsAtWrite_any (e : Nat) (he : e < 14) (w : World) :
    Calls Tryd.prog 76 #[.int .i64 e] w fun r w' => r = .returned (.bool (bW e)) ∧ w' = w := by
  rcases cases14 he with rfl | rfl | rfl | rfl | rfl | rfl | rfl | rfl | rfl | rfl | rfl | rfl | rfl | rfl
  all_goals
    go_enter Tryd.func76, Tryd.ntmps76
    go_wp2
    go_ret
    exact ⟨rfl, rfl⟩

set_option maxHeartbeats 400000 in
theorem joins_any (e d : Nat) (he : e < 14) (hd : d < 14) (w : World) :
    Calls Tryd.prog 73 #[.int .i64 e, .int .i64 d] w fun r w' => r = .returned (.bool (bW e == eW d)) ∧ w' = w := by
  go_enter Tryd.func73, Tryd.ntmps73
  go_wp2_with (first | (go_at_call 75; refine (endsAtWrite_any d hd _).mono ?_; rintro r w1 ⟨rfl, rfl⟩) | (go_at_call 76; refine (beginsAtWrite_any e he _).mono ?_; rintro r w1 ⟨rfl, rfl⟩))
  go_ret
  exact ⟨rfl, rfl⟩

set_option maxHeartbeats 400000 in
theorem num_any (e : Int) (w : World) :
    Calls Tryd.prog 11 #[.int .i64 e] w fun r w' => r = .returned (.int .i64 e) ∧ w' = w := by
  go_enter Tryd.func11, Tryd.ntmps11
  go_wp2
  go_ret
  exact ⟨rfl, rfl⟩

end Go.Proofs.YtmhkikaanaocdabDoor
