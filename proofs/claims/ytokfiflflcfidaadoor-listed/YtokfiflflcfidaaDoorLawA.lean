import Derived.Test.YtokfiflflcfidaaDoorRows
import Derived.Test.YtokfiflflcfidaaDoorPlain
import Derived.Test.YtokfiflflcfidaaDoorParse
import Derived.Test.YtokfiflflcfidaaDoorMem
import Derived.Test.YtokfiflflcfidaaDoorPreds
import Derived.Test.YtokfiflflcfidaaDoorRefA
import Derived.Test.YtokfiflflcfidaaDoorProgA
import Derived.Test.YtokfiflflcfidaaDoorParseW
import Derived.Test.YtokfiflflcfidaaDoorRefC
import Derived.Test.YtokfiflflcfidaaDoorCells
import Derived.Test.YtokfiflflcfidaaDoorLawA0
import Derived.WalkKit
import Derived.WalkSpells
import Derived.WalkLawsBesides
namespace Go.Proofs.YtokfiflflcfidaaDoor
open Go.RowKit

set_option maxRecDepth 100000 in
set_option maxHeartbeats 400000 in
theorem check_any (s : ByteArray) (hs : s.size ≤ 9223372036854775807) (w : World) (hT : TabN w) :
    Calls Tryd.prog 11 #[.string s] w fun r w' => r = .returned (.tuple #[.int .i64 ((rd s.data.toList).1 : Nat), .int .i64 ((rd s.data.toList).2 : Nat)]) ∧ Below w.heap.size w w' := by
  go_enter Tryd.func11, Tryd.ntmps11
  go_wp2_with fail
  refine (readCycle_any s hs _ hT).mono ?_
  rintro r w1 ⟨v, rfl, _, _, hb1⟩
  go_wp2
  go_ret2
  exact ⟨rfl, hb1⟩

set_option maxRecDepth 100000 in
set_option maxHeartbeats 400000 in
theorem checks_any (s : ByteArray) (hs : s.size ≤ 9223372036854775807) (w : World) (hT : TabN w) (hR : TabR w) :
    Calls Tryd.prog 3 #[.string s] w fun r w' => r = .returned (.bool true) ∧ Below w.heap.size w w' := by
  go_enter Tryd.func3, Tryd.ntmps3
  go_wp2_with fail
  refine (check_any s hs _ hT).mono ?_
  rintro r w1 ⟨rfl, hb1⟩
  go_wp2_with fail
  refine (read_any s hs _ (hR.kept hb1)).mono ?_
  rintro r w2 ⟨v, rfl, _, _, hb2⟩
  go_wp2_with (go_at_call 13; refine (num_any _ _).mono ?_; rintro r w3 ⟨rfl, rfl⟩)
  go_ret
  exact ⟨rfl, hb1.trans (hb2.mono hb1.size)⟩

end Go.Proofs.YtokfiflflcfidaaDoor
