import Derived.Test.YtokfiflflcfidaaDoorRows
import Derived.Test.YtokfiflflcfidaaDoorChzM
import Derived.Test.YtokfiflflcfidaaDoorRefA
import Derived.WalkKit
import Derived.WalkSpells
import Derived.WalkLawsBesides
import Derived.RegionTactic
import Derived.BigRegion
import Derived.Deep.QuietTactic
import Derived.BigQuiet
namespace Go.Proofs.YtokfiflflcfidaaDoor
open Go.RowKit

set_option maxRecDepth 100000 in
set_option maxHeartbeats 800000 in
theorem pickL_any (l : List Int) (lv : Value) (i n : Nat) (w : World) (hS : ScrRd w lv l) (hn : 0 < n ∧ n ≤ 100) :
    Calls Tryd.prog 46 #[lv, .int .i64 i, .int .i64 n] w fun r w' => r = .returned (.int .i64 (pkN l i n : Nat)) ∧ w' = w := by
  obtain ⟨sa, sc, rfl, hsc⟩ := hS
  have hn0 : ¬ ((n : Int) = 0) := by omega
  have hnn : ¬ (n = 0) := by omega
  by_cases hlt : i < l.length
  · obtain ⟨b, off, rfl, hb, hc, hc1, hc2⟩ := hsc i hlt
    have HPK : Hid (pkN l i n = pickN (l[i]?.getD 0) n) := by show _ = _; unfold pkN; rw [if_pos hlt]
    generalize l[i]?.getD 0 = c at *
    have HP : Hid (((pickN c n : Nat) : Int) = (if c < 0 then -(c + 1) else c) % (n : Int)) := by
      show _ = _
      unfold pickN
      have h1 := Int.emod_nonneg (if c < 0 then -(c + 1) else c) (by omega : (n : Int) ≠ 0)
      omega
    have hge : ¬ ((l.length : Int) ≤ (i : Int)) := by omega
    clear hsc
    by_cases h : c < 0
    · go_enter Tryd.func46, Tryd.ntmps46
      go_wp2
      go_ret
      refine ⟨?_, rfl⟩
      show Ending.returned (Value.int .i64 (-((c + 1).tmod (n : Int)))) = _
      rw [HPK.out, HP.out, if_pos h, ← Int.neg_tmod, Int.tmod_eq_emod_of_nonneg (by omega)]
    · go_enter Tryd.func46, Tryd.ntmps46
      go_wp2
      go_ret
      refine ⟨?_, rfl⟩
      show Ending.returned (Value.int .i64 (c % (n : Int))) = _
      rw [HPK.out, HP.out, if_neg (by omega)]
  · have HPK : Hid (pkN l i n = 0) := by show _ = _; unfold pkN; rw [if_neg hlt]
    have hge : (l.length : Int) ≤ (i : Int) := by omega
    clear hsc
    go_enter Tryd.func46, Tryd.ntmps46
    go_wp2
    go_ret
    exact ⟨by rw [HPK.out]; rfl, rfl⟩

/-- how many reads of event i's thread stand among the first k events -/
def rgTo (l : List Ev) (i k : Nat) : Nat := (List.range k).countP fun j => (l[j]?.getD ev0).th == (l[i]?.getD ev0).th && !(l[j]?.getD ev0).wr
theorem rgTo_succ (l : List Ev) (i k : Nat) : rgTo l i (k + 1) = rgTo l i k + if ((l[k]?.getD ev0).th == (l[i]?.getD ev0).th && !(l[k]?.getD ev0).wr) then 1 else 0 := by
  unfold rgTo; rw [List.range_succ, List.countP_append]; simp [List.countP_cons]
theorem rgTo_le (l : List Ev) (i k : Nat) : rgTo l i k ≤ k := by
  have := List.countP_le_length (p := fun j => (l[j]?.getD ev0).th == (l[i]?.getD ev0).th && !(l[j]?.getD ev0).wr) (l := List.range k)
  rw [List.length_range] at this
  exact this

set_option maxRecDepth 100000 in
set_option maxHeartbeats 800000 in
theorem register_any (l : List Ev) (b cap i : Nat) (w : World) (hA : EArr w b l) (hi : i < l.length) (hl2 : l.length ≤ 64) :
    Calls Tryd.prog 43 #[.slice (some ⟨b, 0, none⟩) l.length cap, .int .i64 i] w fun r w' => r = .returned (.int .i64 (rgTo l i i : Nat)) ∧ Below w.heap.size w w' := by
  go_enter Tryd.func43, Tryd.ntmps43
  go_wp2
  go_loopw [5, 6] (fun o k wr => ∃ n : Nat, n ≤ i ∧ k = .int .i64 n ∧ o = .int .i64 (rgTo l i n : Nat) ∧ Below w.heap.size w wr) (fun _ k _ => i - (intOf k).toNat)
  case atStart => exact ⟨0, Nat.zero_le _, rfl, rfl, Below.refl _ _⟩
  case round =>
    obtain ⟨n, hn, rfl, rfl, hb⟩ := hrel
    have hle := rgTo_le l i n
    by_cases hlt : n < i
    · have hnl : n < l.length := by omega
      have h1 := ((hA.kept hb).at hnl).th
      have h2 := ((hA.kept hb).at hnl).wr
      have h3 := ((hA.kept hb).at hi).th
      have HS : Hid _ := rgTo_succ l i n
      have HB : Hid _ := hb
      clear hb
      generalize (l[n]?.getD ev0).th = tn at *
      generalize (l[i]?.getD ev0).th = ti at *
      generalize (l[n]?.getD ev0).wr = wn at *
      generalize rgTo l i n = x at *
      by_cases ht : tn = ti
      · have htI : ((tn : Int) == (ti : Int)) = true := by rw [beq_iff_eq]; omega
        have HS2 : Hid (rgTo l i (n + 1) = x + if (!wn) then 1 else 0) := by show _ = _; rw [HS.out, ht]; simp
        clear ht HS
        cases wn
        all_goals
          go_wp2
          go_quiet (fail)
          go_wp2
          go_roundw
          case rel => exact ⟨n + 1, by omega, by go_num, by rw [HS2.out]; simp, below_drewN HB.out _⟩
          case measure => simp [intOf]; omega
      · have htI : ((tn : Int) == (ti : Int)) = false := by rw [beq_eq_false_iff_ne]; omega
        have HS2 : Hid (rgTo l i (n + 1) = x) := by show _ = _; rw [HS.out, beq_eq_false_iff_ne.2 ht]; simp
        clear ht HS
        go_wp2
        go_quiet (fail)
        go_wp2
        go_roundw
        case rel => exact ⟨n + 1, by omega, by go_num, by rw [HS2.out], below_drewN HB.out _⟩
        case measure => simp [intOf]; omega
    · go_wp2
      go_ret
      have : n = i := by omega
      subst this
      exact ⟨rfl, hb⟩

end Go.Proofs.YtokfiflflcfidaaDoor
