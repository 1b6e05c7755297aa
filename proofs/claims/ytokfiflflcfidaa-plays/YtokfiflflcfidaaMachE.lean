import Derived.Test.YtokfiflflcfidaaRows
import Derived.Test.YtokfiflflcfidaaPlain
import Derived.Test.YtokfiflflcfidaaMem
import Derived.Test.YtokfiflflcfidaaMachM
import Derived.Test.YtokfiflflcfidaaStM
import Derived.WalkKit
import Derived.WalkSpells
import Derived.WalkLawsBesides
import Derived.RegionTactic
import Derived.BigRegion
import Derived.Deep.QuietTactic
import Derived.BigQuiet
namespace Go.Proofs.Ytokfiflflcfidaa
open Go.RowKit


set_option maxRecDepth 100000 in
set_option maxHeartbeats 800000 in
theorem met_any (n : Nat) (want : List RCl) (e : List Nat) (nv : ByteArray) (ca : Option Addr) (cc eb eo ec : Nat) (wv : Value) (w : World) (hW : WantRd w wv want) (hS : SndW n want) (hE : Arr w eb eo e) (hel : e.length = n * 16 + 16) (hn : n ≤ 16) :
    Calls Try.prog 40 #[.agg #[.string nv, .slice ca n cc, wv], .slice (some ⟨eb, eo, none⟩) e.length ec] w fun r w' => r = .returned (.bool (metS n want e)) ∧ Below w.heap.size w w' := by
  obtain ⟨wa, wcap, rfl, hwc⟩ := hW
  have hwl := hS.1
  go_enter Try.func40, Try.ntmps40
  go_wp2
  go_loopw [5] (fun i wr => ∃ k : Nat, k ≤ want.length ∧ i = .int .i64 k ∧ (want.take k).all (fun c => e[clAt n c]?.getD 0 == c.val) = true ∧ Below w.heap.size w wr ∧ w.heap.size < wr.heap.size ∧ wr.cell? ⟨w.heap.size, 1, none⟩ = some (.slice ca n cc) ∧ wr.cell? ⟨w.heap.size, 2, none⟩ = some (.slice wa want.length wcap)) (fun i _ => want.length - (intOf i).toNat)
  case atStart => exact ⟨0, Nat.zero_le _, rfl, by simp, (Below.refl _ _).alloc (Nat.le_refl _) _, by simp, by simp, by simp⟩
  case round =>
    obtain ⟨k, hk, rfl, hall, hb, hsz, b1, b2⟩ := hrel
    by_cases hlt : k < want.length
    · obtain ⟨wb, wo, rfl, hwb, hcl⟩ := hwc k hlt
      have hx := hcl.kept hb hwb
      have hs := hS.2 k hlt
      have hwb2 : wb < wr.heap.size := Nat.lt_of_lt_of_le hwb hb.size
      have HT : Hid ((want.take (k + 1)).all (fun c => e[clAt n c]?.getD 0 == c.val) = ((want.take k).all (fun c => e[clAt n c]?.getD 0 == c.val) && (e[clAt n (want[k]?.getD rcl0)]?.getD 0 == (want[k]?.getD rcl0).val))) := by
        show _ = _
        rw [List.take_add_one, List.all_append]
        rw [List.getElem?_eq_getElem hlt]
        simp
      have HF : Hid ((e[clAt n (want[k]?.getD rcl0)]?.getD 0 == (want[k]?.getD rcl0).val) = false → metS n want e = false) := by
        intro hf
        unfold metS
        rw [List.all_eq_false]
        exact ⟨want[k], List.getElem_mem hlt, by rw [List.getElem?_eq_getElem hlt] at hf; simpa using hf⟩
      generalize want[k]?.getD rcl0 = c at *
      obtain ⟨x0, x1, x2, x3⟩ := hx
      obtain ⟨⟨h1, h2⟩, h3, h4⟩ := hs
      have HBK : Hid _ := hb
      have HALL : Hid _ := hall
      have hid : clAt n c < e.length := by unfold clAt; split <;> omega
      have he := (hE.kept hb).2 (clAt n c) hid
      have hebl : eb < wr.heap.size := (hE.kept hb).1
      generalize hev : e[clAt n c]?.getD 0 = ev at *
      have hbn : ¬ (w.heap.size = wr.heap.size) := by omega
      have hwn : ¬ (wb = wr.heap.size) := by omega
      clear hcl hwc hS hE hb hall
      by_cases hneg : c.thr < 0
      · have hce : clAt n c = n * 16 + c.cell := by unfold clAt; rw [if_pos hneg]
        rw [hce] at he hid
        have hj : ((n : Int) * 16 + (c.cell : Int)).toNat = n * 16 + c.cell := by omega
        have hj0 : (0 : Int) ≤ (n : Int) * 16 + (c.cell : Int) := by omega
        have hj1 : (n : Int) * 16 + (c.cell : Int) < (e.length : Int) := by omega
        clear hel
        by_cases hcmp : ev = c.val
        · have hci : ((ev : Int) != (c.val : Int)) = false := by rw [hcmp]; simp
          have HEQ : Hid (ev = c.val) := hcmp
          clear hcmp
          go_wp2
          go_quiet (fail)
          go_wp2
          go_roundw
          case rel => exact ⟨k + 1, hlt, by go_num, by rw [HT.out, HALL.out, HEQ.out]; simp, below_drewN (HBK.out.alloc (by omega) _) _, by simp; omega, ((below_drewN ((Below.refl wr.heap.size wr).alloc (Nat.le_refl _) _) _).cell (p := ⟨w.heap.size, 1, none⟩) hsz).trans b1, ((below_drewN ((Below.refl wr.heap.size wr).alloc (Nat.le_refl _) _) _).cell (p := ⟨w.heap.size, 2, none⟩) hsz).trans b2⟩
          case measure => simp [intOf]; omega
        · have hci : ((ev : Int) != (c.val : Int)) = true := by rw [bne_iff_ne]; omega
          go_wp2
          go_quiet (fail)
          go_wp2
          go_ret
          refine ⟨?_, below_drewN (HBK.out.alloc (by omega) _) _⟩
          rw [HF.out (by rw [beq_eq_false_iff_ne]; exact hcmp)]
          rfl
      · obtain ⟨t, ht⟩ : ∃ t : Nat, c.thr = (t : Int) := ⟨c.thr.toNat, by omega⟩
        have hce : clAt n c = t * 16 + c.reg := by unfold clAt; rw [if_neg hneg, ht]; simp
        rw [hce] at he hid
        have hneg2 : ¬ ((t : Int) < 0) := by omega
        rw [ht] at x0
        have htn : t < n := by omega
        have hj : ((t : Int) * 16 + (c.reg : Int)).toNat = t * 16 + c.reg := by omega
        have hj0 : (0 : Int) ≤ (t : Int) * 16 + (c.reg : Int) := by omega
        have hj1 : (t : Int) * 16 + (c.reg : Int) < (e.length : Int) := by omega
        clear hel
        by_cases hcmp : ev = c.val
        · have hci : ((ev : Int) != (c.val : Int)) = false := by rw [hcmp]; simp
          have HEQ : Hid (ev = c.val) := hcmp
          clear hcmp
          go_wp2
          go_quiet (fail)
          go_wp2
          go_roundw
          case rel => exact ⟨k + 1, hlt, by go_num, by rw [HT.out, HALL.out, HEQ.out]; simp, below_drewN (HBK.out.alloc (by omega) _) _, by simp; omega, ((below_drewN ((Below.refl wr.heap.size wr).alloc (Nat.le_refl _) _) _).cell (p := ⟨w.heap.size, 1, none⟩) hsz).trans b1, ((below_drewN ((Below.refl wr.heap.size wr).alloc (Nat.le_refl _) _) _).cell (p := ⟨w.heap.size, 2, none⟩) hsz).trans b2⟩
          case measure => simp [intOf]; omega
        · have hci : ((ev : Int) != (c.val : Int)) = true := by rw [bne_iff_ne]; omega
          go_wp2
          go_quiet (fail)
          go_wp2
          go_ret
          refine ⟨?_, below_drewN (HBK.out.alloc (by omega) _) _⟩
          rw [HF.out (by rw [beq_eq_false_iff_ne]; exact hcmp)]
          rfl
    · go_wp2
      go_ret
      have : k = want.length := by omega
      subst this
      refine ⟨?_, hb⟩
      unfold metS
      rw [List.take_length] at hall
      rw [hall]
      rfl

end Go.Proofs.Ytokfiflflcfidaa
