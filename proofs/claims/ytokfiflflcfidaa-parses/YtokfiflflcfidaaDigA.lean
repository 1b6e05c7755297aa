import Derived.Test.YtokfiflflcfidaaRows
import Derived.Test.YtokfiflflcfidaaMem
import Derived.WalkKit
import Derived.WalkSpells
import Derived.WalkLawsBesides
import Derived.Laws.IdiomStrings
namespace Go.Proofs.Ytokfiflflcfidaa
open Go.RowKit

/-- a number below 16 as a byte -/
def dgN (k : Nat) : UInt8 := if k < 10 then UInt8.ofNat (48 + k) else UInt8.ofNat (87 + k)
/-- a cell's letter -/
def ltN (k : Nat) : UInt8 := UInt8.ofNat (97 + k)
theorem cases16 {e : Nat} (h : e < 16) : e = 0 ∨ e = 1 ∨ e = 2 ∨ e = 3 ∨ e = 4 ∨ e = 5 ∨ e = 6 ∨ e = 7 ∨ e = 8 ∨ e = 9 ∨ e = 10 ∨ e = 11 ∨ e = 12 ∨ e = 13 ∨ e = 14 ∨ e = 15 := by omega

/-- the cells of a few new bytes, read back -/
theorem back_any (w : World) (l : List UInt8) (vs : Array Value) (hv : vs = (l.map fun b => Value.int .u8 ((b.toNat : Nat) : Int)).toArray) (cap n : Nat) (hn : n = l.length) :
    (convert 88 9 (.slice (some ⟨w.heap.size, 0, none⟩) n cap)).run Try.prog (w.alloc (.cells vs 5)) = .ok (.string ⟨l.toArray⟩) (w.alloc (.cells vs 5)) :=
  hn ▸ run_convert_bytes_back (P := Try.prog) (w.alloc (.cells vs 5)) 88 9 5 ⟨w.heap.size, 0, none⟩ cap l Try.underlying88 Try.underlying5 Try.underlying9 (fun j hj => by
    have h1 := heap_alloc_new w (.cells vs 5)
    have hadd : (⟨w.heap.size, 0, none⟩ : Addr).add j = ⟨w.heap.size, j, none⟩ := by unfold Addr.add; split <;> simp_all
    rw [hadd, cell_of_row _ _ j _ _ _ h1, hv]
    simp [hj])

set_option maxRecDepth 100000 in
set_option maxHeartbeats 800000 in
theorem signA_any (k : Nat) (hk : k < 16) (w : World) :
    Calls Try.prog 66 #[.string ⟨#[97, 98, 99, 100, 101, 102, 103, 104, 105, 106, 107, 108, 109, 110, 111, 112]⟩, .int .i64 k] w fun r w' => r = .returned (.int .u8 ((ltN k).toNat : Int)) ∧ w' = w := by
  rcases cases16 hk with rfl | rfl | rfl | rfl | rfl | rfl | rfl | rfl | rfl | rfl | rfl | rfl | rfl | rfl | rfl | rfl
  all_goals
    go_enter Try.func66, Try.ntmps66
    go_wp2
    go_ret
    exact ⟨rfl, rfl⟩

set_option maxRecDepth 100000 in
set_option maxHeartbeats 800000 in
theorem signN_any (k : Nat) (hk : k < 16) (w : World) :
    Calls Try.prog 66 #[.string ⟨#[48, 49, 50, 51, 52, 53, 54, 55, 56, 57, 97, 98, 99, 100, 101, 102]⟩, .int .i64 k] w fun r w' => r = .returned (.int .u8 ((dgN k).toNat : Int)) ∧ w' = w := by
  rcases cases16 hk with rfl | rfl | rfl | rfl | rfl | rfl | rfl | rfl | rfl | rfl | rfl | rfl | rfl | rfl | rfl | rfl
  all_goals
    go_enter Try.func66, Try.ntmps66
    go_wp2
    go_ret
    exact ⟨rfl, rfl⟩

set_option maxRecDepth 100000 in
set_option maxHeartbeats 800000 in
theorem signV_any (k : Nat) (hk : k < 10) (w : World) :
    Calls Try.prog 66 #[.string ⟨#[48, 49, 50, 51, 52, 53, 54, 55, 56, 57]⟩, .int .i64 k] w fun r w' => r = .returned (.int .u8 ((dgN k).toNat : Int)) ∧ w' = w := by
  rcases cases16 (show k < 16 by omega) with rfl | rfl | rfl | rfl | rfl | rfl | rfl | rfl | rfl | rfl | rfl | rfl | rfl | rfl | rfl | rfl
  all_goals first | omega | skip
  all_goals
    go_enter Try.func66, Try.ntmps66
    go_wp2
    go_ret
    exact ⟨rfl, rfl⟩

end Go.Proofs.Ytokfiflflcfidaa
