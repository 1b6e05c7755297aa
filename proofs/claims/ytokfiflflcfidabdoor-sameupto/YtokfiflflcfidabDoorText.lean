import Derived.Test.YtokfiflflcfidabDoorRows
import Derived.Test.YtokfiflflcfidabDoorPlain
import Derived.Test.YtokfiflflcfidabDoorParse
import Derived.Test.YtokfiflflcfidabDoorMem
import Derived.Test.YtokfiflflcfidabDoorPreds
import Derived.Test.YtokfiflflcfidabDoorRefA
import Derived.Test.YtokfiflflcfidabDoorProgA
import Derived.Test.YtokfiflflcfidabDoorParseW
import Derived.WalkKit
import Derived.WalkSpells
import Derived.WalkLawsBesides
import Derived.Lib.SmallJoins
namespace Go.Proofs.YtokfiflflcfidabDoor
open Go.RowKit

/-- the text of the first n edges -/
def txTo (l : List Nat) : Nat → List UInt8
  | 0 => []
  | n + 1 => (if n = 0 then [] else txTo l n ++ [32]) ++ nmL (l[n]?.getD 0)
def tx (l : List Nat) : List UInt8 := txTo l l.length
theorem txTo_length (l : List Nat) (n : Nat) : (txTo l n).length = 4 * n - 1 := by
  induction n with
  | zero => rfl
  | succ n ih =>
    simp only [txTo, List.length_append, nmL_length]
    split
    · rename_i h; subst h; rfl
    · rw [List.length_append, ih]; simp; omega

set_option maxRecDepth 100000 in
set_option maxHeartbeats 400000 in
theorem text_any (l : List Nat) (b off cap : Nat) (w : World) (hA : Arr w b off l) (hE : ∀ x ∈ l, x < 14) (hl2 : l.length ≤ 1000) (hT : TabR w) :
    Calls Tryd.prog 16 #[.slice (some ⟨b, off, none⟩) l.length cap] w fun r w' => r = .returned (.string ⟨(tx l).toArray⟩) ∧ w' = w := by
  go_enter Tryd.func16, Tryd.ntmps16
  go_wp2
  go_loop [3, 4] (fun s i => ∃ n : Nat, n ≤ l.length ∧ i = .int .i64 n ∧ ∃ S : ByteArray, s = .string S ∧ S.data.toList = txTo l n) (fun _ i => l.length - (intOf i).toNat)
  case atStart => exact ⟨0, Nat.zero_le _, rfl, _, rfl, rfl⟩
  case round =>
    obtain ⟨n, hn, rfl, S, rfl, hS⟩ := hrel
    have HSS : Hid _ := hS
    clear hS
    by_cases hlt : n < l.length
    · have hc := hA.at hlt
      have he := getD_lt hE n
      have hnm := hT.names _ he
      have HS : Hid (txTo l (n + 1) = (if n = 0 then [] else txTo l n ++ [32]) ++ nmL (l[n]?.getD 0)) := rfl
      have hlen := txTo_length l n
      rw [← HSS.out, size_data] at hlen
      have hsz : S.size ≤ 4000 := by omega
      clear hlen
      generalize l[n]?.getD 0 = e at *
      have hei : (e : Int) < 14 := by omega
      have hns := nm_size e
      by_cases h0 : n = 0
      · have h0i : ¬ ((0 : Int) < (n : Int)) := by omega
        have HZ : Hid _ := h0
        clear h0
        go_wp2
        go_round
        case rel =>
          refine ⟨n + 1, by omega, by go_num, _, rfl, ?_⟩
          rw [HS.out, if_pos HZ.out, Joins.data_append, HSS.out, HZ.out]; rfl
        case measure => simp [intOf]; omega
      · have h0i : ((0 : Int) < (n : Int)) := by omega
        go_wp2
        go_round
        case rel =>
          refine ⟨n + 1, by omega, by go_num, _, rfl, ?_⟩
          rw [HS.out, if_neg h0, Joins.data_append, Joins.data_append, HSS.out]; rfl
        case measure => simp [intOf]; omega
    · go_wp2
      go_ret
      have : n = l.length := by omega
      subst this
      refine ⟨?_, rfl⟩
      show Ending.returned (.string S) = _
      have : S = ⟨(tx l).toArray⟩ := by
        obtain ⟨d⟩ := S
        congr 1
        apply Array.toList_inj.1
        rw [HSS.out]; rfl
      rw [this]

end Go.Proofs.YtokfiflflcfidabDoor
