import Derived.Test.YtokfiflflcfidabRows
import Derived.Test.YtokfiflflcfidabPMW
import Derived.WalkKit
import Derived.WalkSpells
import Derived.WalkLawsBesides
import Derived.RegionTactic
import Derived.BigRegion
import Derived.Deep.QuietTactic
import Derived.BigQuiet
namespace Go.Proofs.Ytokfiflflcfidab
open Go.RowKit

/-- what a move leaves: the machine in its new state, and nothing else touched that was there at base -/
def PMoved (TM TT TX : Nat) (w w' : World) (base : Nat) (L : PLoc) (model n : Nat) (mem : Nat → Nat) (th : Nat → Th) : Prop :=
  ∃ L' : PLoc, L'.M = L.M ∧ PInv TM TT TX w' base L' model n mem th ∧ Below base w w' ∧ PFr TM TT TX w w'

set_option maxRecDepth 100000 in
set_option maxHeartbeats 400000 in
theorem pwrite_any (n : Nat) (mem : Nat → Nat) (th : Nat → Th) (c v base model : Nat) (L : PLoc) (w : World) (hI : PInv 79 82 98 w base L model n mem th) (hc : c < 16) :
    Calls Try.prog 48 #[.pointer (some ⟨L.M, 0, none⟩), .int .i64 c, .int .i64 v] w fun r w' => r = .returned (.tuple #[]) ∧ w' = w.setCell ⟨L.M, 2 + c, none⟩ (.int .i64 v) := by
  have cm := hI.cm c hc
  have hf := hI.kM.free (2 + c)
  have hci : (c : Int) < 16 := by omega
  clear hI
  go_enter Try.func48, Try.ntmps48
  go_wp2_with (go_at_call 46; refine (isCell_m c hc _).mono ?_; rintro r w1 ⟨rfl, rfl⟩)
  go_end0
  exact ⟨rfl, rfl⟩

set_option maxRecDepth 100000 in
set_option maxHeartbeats 400000 in
theorem pread_any (n : Nat) (mem : Nat → Nat) (th : Nat → Th) (c base model : Nat) (L : PLoc) (w : World) (hI : PInv 79 82 98 w base L model n mem th) (hc : c < 16) :
    Calls Try.prog 43 #[.pointer (some ⟨L.M, 0, none⟩), .int .i64 c] w fun r w' => r = .returned (.int .i64 ((mem c : Nat) : Int)) ∧ w' = w := by
  have cm := hI.cm c hc
  have hci : (c : Int) < 16 := by omega
  clear hI
  go_enter Try.func43, Try.ntmps43
  go_wp2_with (go_at_call 46; refine (isCell_m c hc _).mono ?_; rintro r w1 ⟨rfl, rfl⟩)
  go_ret
  exact ⟨rfl, rfl⟩

set_option maxRecDepth 100000 in
set_option maxHeartbeats 800000 in
theorem pseen_any (n : Nat) (mem : Nat → Nat) (th : Nat → Th) (k c base model : Nat) (L : PLoc) (w : World) (hI : PInv 79 82 98 w base L model n mem th) (hk : k < n) (hc : c < 16) (hbl : (th k).buf.length ≤ 1000) :
    Calls Try.prog 49 #[.pointer (some ⟨L.M, 0, none⟩), .pointer (some ⟨L.gt, k * 18, none⟩), .int .i64 c] w fun r w' => r = .returned (.int .i64 ((loadS mem th k c : Nat) : Int)) ∧ w' = w := by
  have t2 := hI.t2 k hk
  have hcb := hI.cb k hk
  have HB2 : Hid (∀ i, i < (th k).buf.length → ∃ b off, ∃ cap, L.bv k = .slice (some ⟨b, off, none⟩) (th k).buf.length cap ∧ HeldAt w b (off + i * 2) ((th k).buf[i]?.getD rins0)) := by
    intro i hi
    rcases hcb with ⟨_, h⟩ | ⟨b, off, cap, h1, _, h2, _⟩
    · rw [h] at hi; simp at hi
    · exact ⟨b, off, cap, h1, h2 i hi⟩
  obtain ⟨a, bc, hbv⟩ := hcb.len
  rw [hbv] at t2
  have HBV : Hid _ := hbv
  have HLD : Hid (loadS mem th k c = (ldTo (th k).buf c (th k).buf.length).getD (mem c)) := rfl
  have HS : Hid (∀ n, ldTo (th k).buf c (n + 1) = if ((th k).buf[n]?.getD rins0).cell = c then some ((th k).buf[n]?.getD rins0).val else ldTo (th k).buf c n) := fun _ => rfl
  have HZ : Hid (ldTo (th k).buf c 0 = none) := rfl
  have HRD : Hid _ := pread_any n mem th c base model L w hI hc
  clear hcb hbv hI
  generalize (th k).buf.length = bl at *
  go_enter Try.func49, Try.ntmps49
  go_wp2
  go_loop [7] (fun i => ∃ m : Nat, m ≤ bl ∧ i = .int .i64 ((m : Int) - 1) ∧ ldTo (th k).buf c m = ldTo (th k).buf c bl) (fun i => ((intOf i) + 1).toNat)
  case atStart => exact ⟨bl, Nat.le_refl _, rfl, rfl⟩
  case round =>
    obtain ⟨m, hm, rfl, hld⟩ := hrel
    have HL : Hid _ := hld
    clear hld
    by_cases hm0 : 0 < m
    · obtain ⟨i, rfl⟩ : ∃ i, m = i + 1 := ⟨m - 1, by omega⟩
      obtain ⟨b, off, cap, hb1, hH⟩ := HB2.out i (by omega)
      have hbe := HBV.out.symm.trans hb1
      simp only [Value.slice.injEq] at hbe
      obtain ⟨rfl, _, rfl⟩ := hbe
      have x0 := hH.cell
      have x1 := hH.val
      have e1 : (((i + 1 : Nat) : Int) - 1) = (i : Int) := by omega
      rw [e1]
      have HS1 : Hid _ := HS.out i
      clear hH hb1
      generalize ((th k).buf[i]?.getD rins0).cell = xc at *
      generalize ((th k).buf[i]?.getD rins0).val = xv at *
      by_cases hx : xc = c
      · subst hx
        have HR : Hid (loadS mem th k xc = xv) := by show _ = _; rw [HLD.out, ← HL.out, HS1.out, if_pos rfl]; rfl
        go_wp2
        go_ret
        exact ⟨by rw [HR.out]; rfl, rfl⟩
      · have hxi : ((xc : Int) == (c : Int)) = false := by rw [beq_eq_false_iff_ne]; omega
        have HL2 : Hid (ldTo (th k).buf c i = ldTo (th k).buf c bl) := by show _ = _; rw [← HL.out, HS1.out, if_neg hx]
        clear hx
        go_wp2
        go_round
        case rel => exact ⟨i, by omega, by go_num, HL2.out⟩
        case measure => simp [intOf]
    · have : m = 0 := by omega
      subst this
      have HR : Hid (loadS mem th k c = mem c) := by show _ = _; rw [HLD.out, ← HL.out, HZ.out]; rfl
      go_wp2_with fail
      refine Calls.mono HRD.out ?_
      rintro r w1 ⟨rfl, rfl⟩
      go_wp2
      go_ret
      exact ⟨by rw [HR.out]; rfl, rfl⟩

set_option maxRecDepth 100000 in
set_option maxHeartbeats 1600000 in
theorem pdrain_any (n : Nat) (mem : Nat → Nat) (th : Nat → Th) (k base model : Nat) (L : PLoc) (w : World) (hI : PInv 79 82 98 w base L model n mem th)
    (hk : k < n) (x : RIns) (l : List RIns) (hx : (th k).buf = x :: l) (hc : x.cell < 16) :
    Calls Try.prog 41 #[.pointer (some ⟨L.M, 0, none⟩), .pointer (some ⟨L.gt, k * 18, none⟩)] w fun r w' => r = .returned (.tuple #[]) ∧
      PMoved 79 82 98 w w' base L model n (updN mem x.cell x.val) (updN th k { th k with buf := l }) := by
  have hbuf := hI.cb k hk
  have t2 := hI.t2 k hk
  rw [hx] at hbuf
  rcases hbuf with ⟨_, h⟩ | ⟨b, off, cap, hbv, hcap, hins, hsp⟩
  · simp at h
  have hown : (L.bv k).ownBlock = some b := by rw [hbv]; rfl
  have HEND : Hid (∀ (o : Obj) (v : Value), (v = .slice (some ⟨b, off + 2, none⟩) l.length (cap - 1) ∨ (l = [] ∧ v = .slice (some ⟨b, off, none⟩) l.length 0)) →
      PInv 79 82 98 ((w.setCell ⟨L.gt, k * 18 + 17, none⟩ v).alloc o) base { L with bv := updN L.bv k v } model n mem (updN th k { th k with buf := l }) ∧ Below base w ((w.setCell ⟨L.gt, k * 18 + 17, none⟩ v).alloc o) ∧ PFr 79 82 98 w ((w.setCell ⟨L.gt, k * 18 + 17, none⟩ v).alloc o)) := by
    intro o v hv
    have hvown : v.ownBlock = some b := by rcases hv with rfl | ⟨_, rfl⟩ <;> rfl
    have hBv : Buf2 w v l := by
      rcases hv with rfl | ⟨rfl, rfl⟩
      · refine Or.inr ⟨b, off + 2, cap - 1, rfl, by simp at hcap; omega, fun i hi => ?_, fun j hj => ?_⟩
        · have := hins (i + 1) (by simp; omega)
          have e : off + (i + 1) * 2 = off + 2 + i * 2 := by omega
          rw [e] at this
          simpa using this
        · have := hsp (2 + j) (by omega)
          rw [show off + (2 + j) = off + 2 + j from by omega] at this
          exact this
      · exact Or.inr ⟨b, off, 0, rfl, by simp, fun i hi => by simp at hi, fun j hj => by omega⟩
    have hB := hI.setBuf hk v l hBv (fun b' e => by
      rw [hvown] at e
      simp at e
      subst e
      exact ⟨hI.kb k b hk hown, hI.bb k b hk hown, fun j hj hjk => hI.dbb k j b hk hj (Ne.symm hjk) hown⟩)
    exact ⟨hB.kept ((Below.refl _ _).alloc (Nat.le_refl _) o), ((Below.refl base w).setCell (p := ⟨L.gt, k * 18 + 17, none⟩) hI.bt _).alloc (by simp; exact hI.size) o, (PFr.set hI.kt (Or.inr (Or.inl rfl)) _ _).trans (PFr.alloc _ o)⟩
  rw [hbv] at t2
  have hl1 : (x :: l).length = l.length + 1 := rfl
  rw [hl1] at t2 hcap
  have hX := hins 0 (by simp)
  have x2 := hX.cell
  have x3 := hX.val
  simp only [Nat.zero_mul, Nat.add_zero, List.getElem?_cons_zero, Option.getD_some] at x2 x3
  have hft := hI.kt.free (k * 18 + 17)
  have htl := hI.kt.lt
  have hbl : b < w.heap.size := (hI.kb k b hk hown).lt
  have hbM := hI.bM
  clear hX hins hsp hown hl1 hx hbv
  have hgt2 : ¬ (L.gt = w.heap.size) := by omega
  have hb2 : ¬ (b = w.heap.size) := by omega
  go_enter Try.func41, Try.ntmps41
  go_wp2_with fail
  · have hl0 : l = [] := List.eq_nil_of_length_eq_zero (by omega)
    obtain ⟨k1, k2, k3⟩ := HEND.out (.cells #[.int .i64 (x.cell : Int), .int .i64 (x.val : Int)] 98) (.slice (some ⟨b, off, none⟩) l.length 0) (Or.inr ⟨hl0, rfl⟩)
    have K1 : Hid _ := k1.setMem hc x.val
    have K2 : Hid _ := k2.setCell (p := ⟨L.M, 2 + x.cell, none⟩) hbM (.int .i64 (x.val : Int))
    have K3 : Hid _ := k3.trans (PFr.set k1.kM (Or.inl rfl) (2 + x.cell) (.int .i64 (x.val : Int)))
    refine (pwrite_any n mem _ x.cell x.val base model _ _ k1 hc).mono ?_
    rintro r w1 ⟨rfl, rfl⟩
    clear k1 k2 k3 hl0
    go_wp2
    go_end0
    exact ⟨rfl, ⟨L.M, L.gt, L.tcap, updN L.bv k (.slice (some ⟨b, off, none⟩) l.length 0)⟩, rfl, K1.out, K2.out, K3.out⟩
  · obtain ⟨k1, k2, k3⟩ := HEND.out (.cells #[.int .i64 (x.cell : Int), .int .i64 (x.val : Int)] 98) (.slice (some ⟨b, off + 2, none⟩) l.length (cap - 1)) (Or.inl rfl)
    have K1 : Hid _ := k1.setMem hc x.val
    have K2 : Hid _ := k2.setCell (p := ⟨L.M, 2 + x.cell, none⟩) hbM (.int .i64 (x.val : Int))
    have K3 : Hid _ := k3.trans (PFr.set k1.kM (Or.inl rfl) (2 + x.cell) (.int .i64 (x.val : Int)))
    refine (pwrite_any n mem _ x.cell x.val base model _ _ k1 hc).mono ?_
    rintro r w1 ⟨rfl, rfl⟩
    clear k1 k2 k3
    go_wp2
    go_end0
    exact ⟨rfl, ⟨L.M, L.gt, L.tcap, updN L.bv k (.slice (some ⟨b, off + 2, none⟩) l.length (cap - 1))⟩, rfl, K1.out, K2.out, K3.out⟩

end Go.Proofs.Ytokfiflflcfidab
