import Derived.Test.YtahbdpojbpgahaaDoorRows
import Derived.Test.YtahbdpojbpgahaaDoorPlain
import Derived.WalkKit
import Derived.WalkSpells
import Derived.WalkLawsBesides
namespace Go.Proofs.YtahbdpojbpgahaaDoor
open Go.RowKit

set_option maxHeartbeats 400000 in
theorem outer_any (e : Nat) (he : e < 14) (w : World) :
    Calls Tryd.prog 46 #[.int .i64 e] w fun r w' => r = .returned (.bool (lT e)) ∧ w' = w := by
  rcases cases14 he with rfl | rfl | rfl | rfl | rfl | rfl | rfl | rfl | rfl | rfl | rfl | rfl | rfl | rfl
  all_goals
    go_enter Tryd.func46, Tryd.ntmps46
    go_wp2
    go_ret
    exact ⟨rfl, rfl⟩

set_option maxHeartbeats 400000 in
theorem moving_any (e : Nat) (he : e < 14) (w : World) :
    Calls Tryd.prog 47 #[.int .i64 e] w fun r w' => r = .returned (.bool (lC e)) ∧ w' = w := by
  rcases cases14 he with rfl | rfl | rfl | rfl | rfl | rfl | rfl | rfl | rfl | rfl | rfl | rfl | rfl | rfl
  all_goals
    go_enter Tryd.func47, Tryd.ntmps47
    go_wp2
    go_ret
    exact ⟨rfl, rfl⟩

set_option maxHeartbeats 400000 in
theorem leavesThread_any (e : Nat) (he : e < 14) (w : World) :
    Calls Tryd.prog 62 #[.int .i64 e] w fun r w' => r = .returned (.bool (lT e)) ∧ w' = w := by
  rcases cases14 he with rfl | rfl | rfl | rfl | rfl | rfl | rfl | rfl | rfl | rfl | rfl | rfl | rfl | rfl
  all_goals
    go_enter Tryd.func62, Tryd.ntmps62
    go_wp2
    go_ret
    exact ⟨rfl, rfl⟩

set_option maxHeartbeats 400000 in
theorem leavesCell_any (e : Nat) (he : e < 14) (w : World) :
    Calls Tryd.prog 63 #[.int .i64 e] w fun r w' => r = .returned (.bool (lC e)) ∧ w' = w := by
  rcases cases14 he with rfl | rfl | rfl | rfl | rfl | rfl | rfl | rfl | rfl | rfl | rfl | rfl | rfl | rfl
  all_goals
    go_enter Tryd.func63, Tryd.ntmps63
    go_wp2
    go_ret
    exact ⟨rfl, rfl⟩

set_option maxHeartbeats 400000 in
theorem endsAtWrite_any (e : Nat) (he : e < 14) (w : World) :
    Calls Tryd.prog 68 #[.int .i64 e] w fun r w' => r = .returned (.bool (eW e)) ∧ w' = w := by
  rcases cases14 he with rfl | rfl | rfl | rfl | rfl | rfl | rfl | rfl | rfl | rfl | rfl | rfl | rfl | rfl
  all_goals
    go_enter Tryd.func68, Tryd.ntmps68
    go_wp2
    go_ret
    exact ⟨rfl, rfl⟩

set_option maxHeartbeats 400000 in
theorem beginsAtWrite_any (e : Nat) (he : e < 14) (w : World) :
    Calls Tryd.prog 69 #[.int .i64 e] w fun r w' => r = .returned (.bool (bW e)) ∧ w' = w := by
  rcases cases14 he with rfl | rfl | rfl | rfl | rfl | rfl | rfl | rfl | rfl | rfl | rfl | rfl | rfl | rfl
  all_goals
    go_enter Tryd.func69, Tryd.ntmps69
    go_wp2
    go_ret
    exact ⟨rfl, rfl⟩

set_option maxHeartbeats 400000 in
theorem joins_any (e d : Nat) (he : e < 14) (hd : d < 14) (w : World) :
    Calls Tryd.prog 66 #[.int .i64 e, .int .i64 d] w fun r w' => r = .returned (.bool (bW e == eW d)) ∧ w' = w := by
  go_enter Tryd.func66, Tryd.ntmps66
  go_wp2_with (first | (go_at_call 68; refine (endsAtWrite_any d hd _).mono ?_; rintro r w1 ⟨rfl, rfl⟩) | (go_at_call 69; refine (beginsAtWrite_any e he _).mono ?_; rintro r w1 ⟨rfl, rfl⟩))
  go_ret
  exact ⟨rfl, rfl⟩

set_option maxHeartbeats 400000 in
theorem num_any (e : Int) (w : World) :
    Calls Tryd.prog 12 #[.int .i64 e] w fun r w' => r = .returned (.int .i64 e) ∧ w' = w := by
  go_enter Tryd.func12, Tryd.ntmps12
  go_wp2
  go_ret
  exact ⟨rfl, rfl⟩

end Go.Proofs.YtahbdpojbpgahaaDoor
