import Derived.Test.YtokfiflflcfidabDoorRows
import Derived.Test.YtokfiflflcfidabDoorHapX
import Derived.Test.YtokfiflflcfidabDoorBldR
import Derived.WalkKit
import Derived.WalkSpells
import Derived.WalkLawsBesides
namespace Go.Proofs.YtokfiflflcfidabDoor
open Go.RowKit

/-- an event, copied into a block of its own -/
structure EvBlk (w : World) (T O a e t c r : Nat) : Prop where
  blk : w.heap[O]? = some (.cells #[.int .i64 a, .int .i64 e, .int .i64 t, .int .i64 c, .int .i64 r] T (0, 0))
theorem EvBlk.new (w : World) (T a e t c r : Nat) : EvBlk (w.alloc (.cells #[.int .i64 a, .int .i64 e, .int .i64 t, .int .i64 c, .int .i64 r] T)) T w.heap.size a e t c r := ⟨heap_alloc_new w _⟩
theorem EvBlk.lt {w : World} {T O a e t c r : Nat} (h : EvBlk w T O a e t c r) : O < w.heap.size := (Array.getElem?_eq_some_iff.1 h.blk).1
theorem EvBlk.kept {w w' : World} {T O a e t c r : Nat} (h : EvBlk w T O a e t c r) (hb : Below w.heap.size w w') : EvBlk w' T O a e t c r := ⟨(hb.block _ h.lt).trans h.blk⟩
theorem EvBlk.cells {w : World} {T O a e t c r : Nat} (h : EvBlk w T O a e t c r) :
    w.cell? ⟨O, 0, none⟩ = some (.int .i64 a) ∧ w.cell? ⟨O, 1, none⟩ = some (.int .i64 e) ∧ w.cell? ⟨O, 2, none⟩ = some (.int .i64 t) ∧ w.cell? ⟨O, 3, none⟩ = some (.int .i64 c) ∧ w.cell? ⟨O, 4, none⟩ = some (.int .i64 r) := by
  refine ⟨?_, ?_, ?_, ?_, ?_⟩ <;> rw [cell_of_row _ _ _ _ _ _ h.blk] <;> rfl

/-- firstByValue's answer, of what it reads -/
def bvB (same ks kf cf cs own : Bool) (a b : Nat) : Bool :=
  same && (if ks then decide (a < b) && (kf || cf) else if !kf || !cs then false else if own then !(a == b) else a == b)
theorem byVal_eq (L : List Nat) (f s : Nat) : byVal L f s = bvB (cellOf L f == cellOf L s) (bW (L[s]?.getD 0)) (bW (L[f]?.getD 0)) (clm L f) (clm L s) (decide (ownW L s = some f)) (vB L L.length f) (vB L L.length s) := by
  unfold byVal bvB kd
  by_cases h : ownW L s = some f
  · simp only [h, decide_true, if_true]
  · simp only [h, decide_false]
    simp

set_option maxRecDepth 100000 in
set_option maxHeartbeats 3200000 in
theorem firstByValue_any (L : List Nat) (g cap f s : Nat) (w : World) (hP : PRd w g L) (hE : ∀ x ∈ L, x < 14) (hf : f < L.length) (hs : s < L.length) (hl2 : L.length ≤ 64) :
    Calls Tryd.prog 102 #[.slice (some ⟨g, 0, none⟩) L.length cap, .int .i64 f, .int .i64 s] w fun v w' => v = .returned (.bool (byVal L f s)) ∧ Below w.heap.size w w' := by
  have hf0 : ¬ ((f : Int) < 0) := by omega
  have hf1 : ¬ ((L.length : Int) ≤ (f : Int)) := by omega
  have hs0 : ¬ ((s : Int) < 0) := by omega
  have hs1 : ¬ ((L.length : Int) ≤ (s : Int)) := by omega
  rw [byVal_eq]
  have q0 := hP.into f hf
  have q1 := hP.out f hf
  have q2 := hP.thr f hf
  have q3 := hP.cel f hf
  have q4 := hP.reg f hf
  have z0 := hP.into s hs
  have z1 := hP.out s hs
  have z2 := hP.thr s hs
  have z3 := hP.cel s hs
  have z4 := hP.reg s hs
  have ha := getD_lt hE (prv L f)
  have he := getD_lt hE f
  have ha2 := getD_lt hE (prv L s)
  have he2 := getD_lt hE s
  have HCF : Hid (clm L f = (!bW (L[f]?.getD 0) && (isRf (L[prv L f]?.getD 0) || isFr (L[f]?.getD 0)))) := rfl
  have HCS : Hid (clm L s = (!bW (L[s]?.getD 0) && (isRf (L[prv L s]?.getD 0) || isFr (L[s]?.getD 0)))) := rfl
  have hvf : ∀ wq, PRd wq g L → Calls Tryd.prog 85 #[.slice (some ⟨g, 0, none⟩) L.length cap, .int .i64 f] wq fun r w' => r = .returned (.int .i64 (vB L L.length f : Nat)) ∧ Below wq.heap.size wq w' := fun wq h => valueAt_any L g cap f wq h hE hf hl2
  have hvs : ∀ wq, PRd wq g L → Calls Tryd.prog 85 #[.slice (some ⟨g, 0, none⟩) L.length cap, .int .i64 s] wq fun r w' => r = .returned (.int .i64 (vB L L.length s : Nat)) ∧ Below wq.heap.size wq w' := fun wq h => valueAt_any L g cap s wq h hE hs hl2
  have how : ∀ wq, PRd wq g L → Calls Tryd.prog 105 #[.slice (some ⟨g, 0, none⟩) L.length cap, .int .i64 s] wq fun r w' => r = .returned (.int .i64 (ownI L s s)) ∧ Below wq.heap.size wq w' := fun wq h => ownWrite_any L g cap s wq h hE hs hl2
  have hvl := vB_le L L.length f
  have hvl2 := vB_le L L.length s
  have HOI : Hid _ := ownI_eq L s f
  have HVF : Hid _ := hvf
  have HVS : Hid _ := hvs
  have HOW : Hid _ := how
  have HPP : Hid _ := hP
  have hgl := hP.lt
  clear hvf hvs how hP
  generalize vB L L.length f = va at *
  generalize vB L L.length s = vb at *
  generalize clm L f = cf at *
  generalize clm L s = cs at *
  generalize hown : ownI L s s = ow at *
  clear hown
  generalize decide (ownW L s = some f) = od at *
  generalize L[prv L f]?.getD 0 = a at *
  generalize L[f]?.getD 0 = e at *
  generalize thrOf L f = t at *
  generalize cellOf L f = c at *
  generalize (if kd L f then 0 else regOf L f) = rg at *
  generalize L[prv L s]?.getD 0 = a2 at *
  generalize L[s]?.getD 0 = e2 at *
  generalize thrOf L s = t2 at *
  generalize cellOf L s = c2 at *
  generalize (if kd L s then 0 else regOf L s) = rg2 at *
  have hg1 : ¬ (g = w.heap.size) := by omega
  have hg2 : ¬ (g = w.heap.size + 1) := by omega
  have hbA : Below w.heap.size w ((w.alloc (.cells #[.int .i64 a, .int .i64 e, .int .i64 t, .int .i64 c, .int .i64 rg] 110)).alloc (.cells #[.int .i64 a2, .int .i64 e2, .int .i64 t2, .int .i64 c2, .int .i64 rg2] 110)) := ((Below.refl _ _).alloc (Nat.le_refl _) _).alloc (by simp) _
  have HBA : Hid _ := hbA
  have hO1 : EvBlk ((w.alloc (.cells #[.int .i64 a, .int .i64 e, .int .i64 t, .int .i64 c, .int .i64 rg] 110)).alloc (.cells #[.int .i64 a2, .int .i64 e2, .int .i64 t2, .int .i64 c2, .int .i64 rg2] 110)) 110 w.heap.size a e t c rg := (EvBlk.new w _ a e t c rg).kept ((Below.refl _ _).alloc (Nat.le_refl _) _)
  have hO2 : EvBlk ((w.alloc (.cells #[.int .i64 a, .int .i64 e, .int .i64 t, .int .i64 c, .int .i64 rg] 110)).alloc (.cells #[.int .i64 a2, .int .i64 e2, .int .i64 t2, .int .i64 c2, .int .i64 rg2] 110)) 110 (w.heap.size + 1) a2 e2 t2 c2 rg2 := by
    have := EvBlk.new (w.alloc (.cells #[.int .i64 a, .int .i64 e, .int .i64 t, .int .i64 c, .int .i64 rg] 110)) 110 a2 e2 t2 c2 rg2
    rwa [show (w.alloc (.cells #[.int .i64 a, .int .i64 e, .int .i64 t, .int .i64 c, .int .i64 rg] 110)).heap.size = w.heap.size + 1 by simp] at this
  have HO1 : Hid _ := hO1
  have HO2 : Hid _ := hO2
  clear hbA hO1 hO2
  go_enter Tryd.func102, Tryd.ntmps102
  by_cases hc : c = c2
  · have hcI : ((c : Int) == (c2 : Int)) = true := by rw [beq_iff_eq]; omega
    have HC : Hid ((c == c2) = true) := by show _ = _; rw [beq_iff_eq]; exact hc
    clear hc
    go_wp2_with fail
    refine (HVF.out _ (HPP.out.kept HBA.out)).mono ?_
    rintro r w1 ⟨rfl, hb1⟩
    have HB1 : Hid (Below w.heap.size w w1) := HBA.out.trans (hb1.mono HBA.out.size)
    have HO3 : Hid _ := HO1.out.kept hb1
    have HO4 : Hid _ := HO2.out.kept hb1
    clear hb1 HO1 HO2 HBA HVF q0 q1 q2 q3 q4 z0 z1 z2 z3 z4
    go_wp2_with fail
    refine (HVS.out _ (HPP.out.kept HB1.out)).mono ?_
    rintro r w2 ⟨rfl, hb2⟩
    have HB2 : Hid (Below w.heap.size w w2) := HB1.out.trans (hb2.mono HB1.out.size)
    have HO5 : Hid _ := HO3.out.kept hb2
    have HO6 : Hid _ := HO4.out.kept hb2
    obtain ⟨y0, y1, y2, y3, y4⟩ := HO6.out.cells
    clear hb2 HO3 HO4 HB1 HVS
    go_wp2_with fail
    refine (isWrite_any a2 e2 t2 c2 rg2 he2 _).mono ?_
    rintro r w3 ⟨rfl, hb3⟩
    have HB3 : Hid (Below w.heap.size w w3) := HB2.out.trans (hb3.mono HB2.out.size)
    have HO7 : Hid _ := HO5.out.kept hb3
    have HO8 : Hid _ := HO6.out.kept hb3
    obtain ⟨x0, x1, x2, x3, x4⟩ := HO7.out.cells
    clear hb3 HO5 HO6 HB2 y0 y1 y2 y3 y4
    cases hks : bW e2
    · -- a read
      go_wp2_with fail
      refine (isWrite_any a e t c rg he _).mono ?_
      rintro r w4 ⟨rfl, hb4⟩
      have HB4 : Hid (Below w.heap.size w w4) := HB3.out.trans (hb4.mono HB3.out.size)
      have HO9 : Hid _ := HO8.out.kept hb4
      obtain ⟨y0, y1, y2, y3, y4⟩ := HO9.out.cells
      clear hb4 HO7 HO8 HO9 HB3 x0 x1 x2 x3 x4
      cases hkf : bW e
      · have HR : Hid (bvB (c == c2) (bW e2) (bW e) cf cs od va vb = false) := by show _ = _; rw [HC.out, hks, hkf]; rfl
        go_wp2
        go_ret
        exact ⟨by rw [HR.out]; rfl, HB4.out⟩
      · go_wp2_with fail
        refine (isClaimed_any a2 e2 t2 c2 rg2 ha2 he2 _).mono ?_
        rintro r w5 ⟨rfl, hb5⟩
        rw [← HCS.out]
        have HB5 : Hid (Below w.heap.size w w5) := HB4.out.trans (hb5.mono HB4.out.size)
        clear hb5 HB4 y0 y1 y2 y3 y4
        cases hcs : cs
        · have HR : Hid (bvB (c == c2) (bW e2) (bW e) cf cs od va vb = false) := by show _ = _; rw [HC.out, hks, hkf, hcs]; rfl
          go_wp2
          go_ret
          exact ⟨by rw [HR.out]; rfl, HB5.out⟩
        · go_wp2_with fail
          refine (HOW.out _ (HPP.out.kept HB5.out)).mono ?_
          rintro r w6 ⟨rfl, hb6⟩
          have HB6 : Hid (Below w.heap.size w w6) := HB5.out.trans (hb6.mono HB5.out.size)
          clear hb6 HB5
          have hoi := HOI.out
          cases hod : od
          · rw [hod] at hoi
            have HR : Hid (bvB (c == c2) (bW e2) (bW e) cf cs od va vb = (va == vb)) := by show _ = _; rw [HC.out, hks, hkf, hcs, hod]; rfl
            have HI : Hid (((va : Int) == (vb : Int)) = (va == vb)) := by show _ = _; rw [Bool.eq_iff_iff, beq_iff_eq, beq_iff_eq]; omega
            go_wp2
            go_ret
            exact ⟨by rw [HR.out, ← HI.out]; rfl, HB6.out⟩
          · rw [hod] at hoi
            have HR : Hid (bvB (c == c2) (bW e2) (bW e) cf cs od va vb = (!(va == vb))) := by show _ = _; rw [HC.out, hks, hkf, hcs, hod]; rfl
            have HI : Hid (((va : Int) == (vb : Int)) = (va == vb)) := by show _ = _; rw [Bool.eq_iff_iff, beq_iff_eq, beq_iff_eq]; omega
            go_wp2
            go_ret
            exact ⟨by rw [HR.out, ← HI.out]; rfl, HB6.out⟩
    · -- a write
      by_cases hlt : va < vb
      · have hltI : (va : Int) < (vb : Int) := by omega
        have HD : Hid (decide (va < vb) = true) := decide_eq_true hlt
        clear hlt
        go_wp2_with fail
        refine (isWrite_any a e t c rg he _).mono ?_
        rintro r w4 ⟨rfl, hb4⟩
        have HB4 : Hid (Below w.heap.size w w4) := HB3.out.trans (hb4.mono HB3.out.size)
        have HO9 : Hid _ := HO7.out.kept hb4
        obtain ⟨y0, y1, y2, y3, y4⟩ := HO9.out.cells
        clear hb4 HO7 HO8 HO9 HB3 x0 x1 x2 x3 x4
        cases hkf : bW e
        · have HR : Hid (bvB (c == c2) (bW e2) (bW e) cf cs od va vb = cf) := by show _ = _; rw [HC.out, hks, hkf]; unfold bvB; rw [HD.out]; simp
          go_wp2_with fail
          refine (isClaimed_any a e t c rg ha he _).mono ?_
          rintro r w5 ⟨rfl, hb5⟩
          rw [← HCF.out]
          have HB5 : Hid (Below w.heap.size w w5) := HB4.out.trans (hb5.mono HB4.out.size)
          clear hb5 HB4 y0 y1 y2 y3 y4
          go_wp2
          go_ret
          exact ⟨by rw [HR.out]; rfl, HB5.out⟩
        · have HR : Hid (bvB (c == c2) (bW e2) (bW e) cf cs od va vb = true) := by show _ = _; rw [HC.out, hks, hkf]; unfold bvB; rw [HD.out]; simp
          go_wp2
          go_ret
          exact ⟨by rw [HR.out]; rfl, HB4.out⟩
      · have hltI : ¬ ((va : Int) < (vb : Int)) := by omega
        have HR : Hid (bvB (c == c2) (bW e2) (bW e) cf cs od va vb = false) := by show _ = _; rw [HC.out, hks]; unfold bvB; rw [decide_eq_false hlt]; simp
        clear hlt
        go_wp2
        go_ret
        exact ⟨by rw [HR.out]; rfl, HB3.out⟩
  · have hcI : ((c : Int) == (c2 : Int)) = false := by rw [beq_eq_false_iff_ne]; omega
    have HR : Hid (bvB (c == c2) (bW e2) (bW e) cf cs od va vb = false) := by show _ = _; rw [beq_eq_false_iff_ne.2 hc]; rfl
    clear hc
    go_wp2
    go_ret
    exact ⟨by rw [HR.out]; rfl, HBA.out⟩

end Go.Proofs.YtokfiflflcfidabDoor
