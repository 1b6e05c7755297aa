import Derived.Test.YtokfiflflcfidabRows
import Derived.Test.YtokfiflflcfidabPPn
import Derived.WalkKit
import Derived.WalkSpells
import Derived.WalkLawsBesides
import Derived.RegionTactic
import Derived.BigRegion
import Derived.Deep.RegionWith
import Derived.Deep.QuietTactic
import Derived.BigQuiet
namespace Go.Proofs.Ytokfiflflcfidab
open Go.RowKit

/-- the number of which a claim speaks -/
def clV (s : St) (c : RCl) : Nat := if c.thr < 0 then s.mem c.cell else (s.th c.thr.toNat).regs[c.reg]?.getD 0
theorem clV_end (n : Nat) (s : St) (c : RCl) (ht : c.thr < n) (hr : c.reg < 16) (hc : c.cell < 16) : (endS n s)[clAt n c]?.getD 0 = clV s c := by
  unfold clAt clV
  by_cases h : c.thr < 0
  · rw [if_pos h, if_pos h]; exact endS_mem n s hc
  · rw [if_neg h, if_neg h]; exact endS_reg n s (by omega) hr
theorem metTo_succ (n : Nat) (want : List RCl) (e : List Nat) (i : Nat) (h : i < want.length) : metTo n want e (i + 1) = (metTo n want e i && (e[clAt n (want[i]?.getD rcl0)]?.getD 0 == (want[i]?.getD rcl0).val)) := by
  unfold metTo
  rw [List.take_succ_eq_append_getElem h, List.all_append]
  simp [h]
theorem metTo_all (n : Nat) (want : List RCl) (e : List Nat) : metTo n want e want.length = metS n want e := by unfold metTo metS; rw [List.take_length]

set_option maxRecDepth 100000 in
set_option maxHeartbeats 1600000 in
theorem claimed_any (code : List (List RIns)) (s : St) (model M : Nat) (c : RCl) (w0 w : World) (h : PAt w0 w M model code s) (hS : SndC code) (ht : -1 ≤ c.thr ∧ c.thr < code.length) (hr : c.reg < 16) (hc : c.cell < 16) :
    Calls Try.prog 33 #[.pointer (some ⟨M, 0, none⟩), .agg #[.int .i64 c.thr, .int .i64 c.reg, .int .i64 c.cell, .int .i64 c.val]] w fun r w' => r = .returned (.int .i64 ((clV s c : Nat) : Int)) ∧ Below w.heap.size w w' := by
  have hb0 : Below w.heap.size w (w.alloc (.cells #[.int .i64 c.thr, .int .i64 c.reg, .int .i64 c.cell, .int .i64 c.val] 58)) := (Below.refl _ _).alloc (Nat.le_refl _) _
  have h1 := h.kept hb0
  obtain ⟨L, rfl, hI, hB, hO⟩ := h1
  have hl16 := hS.2.1
  have HB0 : Hid _ := hb0
  have hwM : L.M < w.heap.size := by
    obtain ⟨L2, e2, hI2, _⟩ := h
    rw [← e2]; exact hI2.kM.lt
  have hMn : ¬ (L.M = w.heap.size) := by omega
  by_cases hneg : c.thr < 0
  · have hm1 : c.thr = -1 := by omega
    have HV : Hid (clV s c = s.mem c.cell) := by show _ = _; unfold clV; rw [if_pos hneg]
    have HRD : Hid _ := pread_any code.length s.mem s.th c.cell w0.heap.size model L _ hI hc
    rw [hm1] at HRD HB0 ⊢
    clear hI hB hO h hneg hb0
    generalize s.mem c.cell = mv at *
    go_enter Try.func33, Try.ntmps33
    go_wp2_with fail
    refine Calls.mono HRD.out ?_
    rintro r w1 ⟨rfl, rfl⟩
    go_wp2
    go_ret
    exact ⟨by rw [HV.out]; rfl, HB0.out⟩
  · obtain ⟨t, htt⟩ : ∃ t : Nat, c.thr = (t : Int) := ⟨c.thr.toNat, by omega⟩
    have HV : Hid (clV s c = (s.th t).regs[c.reg]?.getD 0) := by show _ = _; unfold clV; rw [if_neg hneg, htt]; simp
    have htl : t < code.length := by omega
    have tr := hI.tr t c.reg htl hr
    have c1 := hI.c1
    rw [htt] at HB0 tr c1 ⊢
    have tn1 : ((t : Int) == -1) = false := by rw [beq_eq_false_iff_ne]; omega
    have t0d : decide ((t : Int) < 0) = false := decide_eq_false (by omega)
    have t1d : decide ((code.length : Int) ≤ (t : Int)) = false := decide_eq_false (by omega)
    have t0 : ¬ ((t : Int) < 0) := by omega
    have t1 : ¬ ((code.length : Int) ≤ (t : Int)) := by omega
    have hri : (c.reg : Int) < 16 := by omega
    have hgl : L.gt < w.heap.size := by
      have := hI.kt.lt
      simp at this
      have hne : L.gt ≠ w.heap.size := by
        intro e
        obtain ⟨cur, hcur⟩ := hI.kt
        rw [e, heap_alloc_new w _] at hcur
        simp at hcur
      omega
    have hgn : ¬ (L.gt = w.heap.size) := by omega
    have c1w : w.cell? ⟨L.M, 1, none⟩ = some (.slice (some ⟨L.gt, 0, none⟩) code.length L.tcap) := (((Below.refl w.heap.size w).alloc (Nat.le_refl _) _).cell (p := ⟨L.M, 1, none⟩) hwM).symm.trans c1
    have trw : w.cell? ⟨L.gt, t * 18 + 1 + c.reg, none⟩ = some (.int .i64 ((((s.th t).regs[c.reg]?.getD 0 : Nat)) : Int)) := (((Below.refl w.heap.size w).alloc (Nat.le_refl _) _).cell (p := ⟨L.gt, _, none⟩) hgl).symm.trans tr
    clear hI hB hO h hneg hb0 htt tr c1 ht
    generalize (s.th t).regs[c.reg]?.getD 0 = rv at *
    go_enter Try.func33, Try.ntmps33
    go_wp2
    go_quiet ((go_at_call 44; exact Calls.quiet_of_same (isReg_m c.reg hr _)))
    go_wp2
    go_quiet (fail)
    go_wp2
    go_ret
    exact ⟨by rw [HV.out]; rfl, by repeat (first | exact HB0.out | apply below_drewN)⟩

set_option maxRecDepth 100000 in
set_option maxHeartbeats 1600000 in
theorem meets_any (code : List (List RIns)) (want : List RCl) (s : St) (model M : Nat) (wv : Value) (w0 w : World) (h : PAt w0 w M model code s) (hS : SndC code) (hW : WantRd w0 wv want) (hSW : SndW code.length want) :
    Calls Try.prog 23 #[.pointer (some ⟨M, 0, none⟩), wv] w fun r w' => r = .returned (.bool (metS code.length want (endS code.length s))) ∧ Below w.heap.size w w' := by
  have HP : Hid (PAt w0 w M model code s) := h
  have hwl := hSW.1
  have HSW : Hid _ := hSW.2
  have HBW : Hid _ := h.below
  obtain ⟨wa, wc, rfl, hwr⟩ := hW
  have HWR : Hid _ := hwr
  have HALL : Hid _ := metTo_all code.length want (endS code.length s)
  clear hwr hSW h
  go_enter Try.func23, Try.ntmps23
  go_wp2
  go_loopw [9] (fun i wr => ∃ n : Nat, n ≤ want.length ∧ i = .int .i64 n ∧ metTo code.length want (endS code.length s) n = true ∧ Below w.heap.size w wr) (fun i _ => want.length - (intOf i).toNat)
  case atStart => exact ⟨0, Nat.zero_le _, rfl, rfl, Below.refl _ _⟩
  case round =>
    obtain ⟨n, hn, rfl, hmet, hb⟩ := hrel
    have HM : Hid _ := hmet
    have HB : Hid _ := hb
    have hbs := hb.size
    clear hmet
    by_cases hlt : n < want.length
    · obtain ⟨b, off, rfl, hbl, hat⟩ := HWR.out n hlt
      have hsw := HSW.out n hlt
      have HSU : Hid _ := metTo_succ code.length want (endS code.length s) n hlt
      have hcv := clV_end code.length s (want[n]?.getD rcl0) hsw.1.2 hsw.2.1 hsw.2.2
      rw [hcv] at HSU
      have hk : Below w0.heap.size w0 wr := HBW.out.trans (hb.mono HBW.out.size)
      have y0 := (hk.cell (p := ⟨b, _, none⟩) hbl).trans hat.thr
      have y1 := (hk.cell (p := ⟨b, _, none⟩) hbl).trans hat.reg
      have y2 := (hk.cell (p := ⟨b, _, none⟩) hbl).trans hat.cell
      have y3 := (hk.cell (p := ⟨b, _, none⟩) hbl).trans hat.val
      have HPR : Hid (PAt w0 wr M model code s) := PAt.kept HP.out hb
      have hbn : ¬ (b = wr.heap.size) := by have := hk.size; omega
      have HLST : Hid (∀ m, metTo code.length want (endS code.length s) m = false → m ≤ want.length → metS code.length want (endS code.length s) = false) := by
        intro m hm hml
        rw [← HALL.out]
        unfold metTo at hm ⊢
        rw [List.all_eq_false] at hm ⊢
        obtain ⟨x, hx, hh⟩ := hm
        exact ⟨x, by rw [List.take_length]; exact List.mem_of_mem_take hx, hh⟩
      clear hat hcv hk hb HSW
      generalize want[n]?.getD rcl0 = c at *
      have HCL : Hid (∀ wq, PAt w0 wq M model code s → Calls Try.prog 33 #[.pointer (some ⟨M, 0, none⟩), .agg #[.int .i64 c.thr, .int .i64 c.reg, .int .i64 c.cell, .int .i64 c.val]] wq fun r w' => r = .returned (.int .i64 ((clV s c : Nat) : Int)) ∧ Below wq.heap.size wq w') := fun wq hq => claimed_any code s model M c w0 wq hq hS hsw.1 hsw.2.1 hsw.2.2
      have hba : Below wr.heap.size wr (wr.alloc (.cells #[.int .i64 c.thr, .int .i64 c.reg, .int .i64 c.cell, .int .i64 c.val] 58)) := (Below.refl _ _).alloc (Nat.le_refl _) _
      have HPA : Hid _ := PAt.kept HPR.out hba
      have HBA : Hid (Below w.heap.size w (wr.alloc (.cells #[.int .i64 c.thr, .int .i64 c.reg, .int .i64 c.cell, .int .i64 c.val] 58))) := HB.out.trans (hba.mono hbs)
      clear hba hsw
      generalize clV s c = cv at *
      by_cases he : cv = c.val
      · have heI : ((cv : Int) == (c.val : Int)) = true := by rw [beq_iff_eq]; omega
        have HM2 : Hid (metTo code.length want (endS code.length s) (n + 1) = true) := by show _ = _; rw [HSU.out, HM.out, he]; simp
        clear he
        go_wp2
        go_region_with (go_at_call 33; refine Calls.mono (HCL.out _ (PAt.kept HPA.out (below_drewN (Below.refl _ _) _))) ?_; rintro r w1 ⟨rfl, hb1⟩; have x3 : w1.cell? ⟨wr.heap.size, 3, none⟩ = some (.int .i64 (c.val : Int)) := (hb1.cell (p := ⟨wr.heap.size, 3, none⟩) (by simp)).trans (by simp); have HB1 : Hid (Below w.heap.size w w1) := HBA.out.trans ((below_drewN (Below.refl _ _) _).trans (hb1.mono (show w.heap.size ≤ (wr.alloc _).heap.size by simp; omega))); clear hb1)
        all_goals go_wp2
        all_goals go_roundw
        all_goals first | exact ⟨n + 1, by omega, by go_num, HM2.out, HB1.out⟩ | (simp [intOf]; omega)
      · have heI : ((cv : Int) == (c.val : Int)) = false := by rw [beq_eq_false_iff_ne]; omega
        have HM2 : Hid (metS code.length want (endS code.length s) = false) := HLST.out (n + 1) (by rw [HSU.out, HM.out, beq_eq_false_iff_ne.2 he]; rfl) (by omega)
        clear he
        go_wp2
        go_region_with (go_at_call 33; refine Calls.mono (HCL.out _ (PAt.kept HPA.out (below_drewN (Below.refl _ _) _))) ?_; rintro r w1 ⟨rfl, hb1⟩; have x3 : w1.cell? ⟨wr.heap.size, 3, none⟩ = some (.int .i64 (c.val : Int)) := (hb1.cell (p := ⟨wr.heap.size, 3, none⟩) (by simp)).trans (by simp); have HB1 : Hid (Below w.heap.size w w1) := HBA.out.trans ((below_drewN (Below.refl _ _) _).trans (hb1.mono (show w.heap.size ≤ (wr.alloc _).heap.size by simp; omega))); clear hb1)
        all_goals go_wp2
        all_goals go_ret
        all_goals exact ⟨by rw [HM2.out]; rfl, HB1.out⟩
    · have : n = want.length := by omega
      subst this
      have HR : Hid (metS code.length want (endS code.length s) = true) := by show _ = _; rw [← HALL.out]; exact HM.out
      go_wp2
      go_ret
      exact ⟨by rw [HR.out]; rfl, HB.out⟩

end Go.Proofs.Ytokfiflflcfidab
