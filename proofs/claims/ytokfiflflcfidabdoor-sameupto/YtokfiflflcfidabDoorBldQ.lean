import Derived.Test.YtokfiflflcfidabDoorRows
import Derived.Test.YtokfiflflcfidabDoorBldP
import Derived.WalkKit
import Derived.WalkSpells
import Derived.WalkLawsBesides
import Derived.RegionTactic
import Derived.BigRegion
import Derived.Deep.RegionWith
import Derived.Deep.RegionLaw
import Derived.Deep.QuietTactic
import Derived.BigQuiet
namespace Go.Proofs.YtokfiflflcfidabDoor
open Go.RowKit

theorem prv_zero (L : List Nat) (h : 0 < L.length) : prv L 0 = L.length - 1 := by unfold prv; rw [Nat.zero_add, Nat.mod_eq_of_lt (by omega)]
theorem prv_pos (L : List Nat) {p : Nat} (h : 0 < p) (hp : p < L.length) : prv L p = p - 1 := by
  unfold prv; rw [show p + L.length - 1 = (p - 1) + L.length from by omega, Nat.add_mod_right, Nat.mod_eq_of_lt (by omega)]

theorem vB_le (L : List Nat) (f i : Nat) : vB L f i ≤ f := by
  induction f generalizing i with
  | zero => exact Nat.le_refl _
  | succ f ih =>
    have := ih (prv L i)
    rw [vB]
    have h1 : b1 (kd L i) ≤ 1 := by unfold b1; split <;> omega
    split <;> omega

set_option maxRecDepth 100000 in
set_option maxHeartbeats 1600000 in
theorem valueAt_any (L : List Nat) (g cap i : Nat) (w : World) (hP : PRd w g L) (hE : ∀ x ∈ L, x < 14) (hi : i < L.length) (hl2 : L.length ≤ 64) :
    Calls Tryd.prog 85 #[.slice (some ⟨g, 0, none⟩) L.length cap, .int .i64 i] w fun r w' => r = .returned (.int .i64 (vB L L.length i : Nat)) ∧ Below w.heap.size w w' := by
  go_enter Tryd.func85, Tryd.ntmps85
  go_wp2
  go_loopw [1, 5, 8] (fun at_ v m wr => ∃ (k p wv : Nat), k ≤ L.length ∧ p < L.length ∧ m = .int .i64 k ∧ (at_ = .int .i64 (p : Int) ∨ (at_ = .int .i64 (-1) ∧ p = L.length - 1)) ∧ v = .int .i64 (wv : Int) ∧ wv + vB L (L.length - k) p = vB L L.length i ∧ Below w.heap.size w wr) (fun _ _ m _ => L.length - (intOf m).toNat)
  case atStart => exact ⟨0, i, 0, Nat.zero_le _, hi, rfl, Or.inl rfl, rfl, by simp, Below.refl _ _⟩
  case round =>
    obtain ⟨k, p, wv, hk, hp, rfl, hat, rfl, hsum, hb⟩ := hrel
    have hle := vB_le L L.length i
    have HS : Hid _ := hsum
    have hwv : wv ≤ 64 := by omega
    clear hsum hle
    by_cases hlt : k < L.length
    · have hPr := hP.kept hb
      have q0 := hPr.into p hp
      have q1 := hPr.out p hp
      have q2 := hPr.thr p hp
      have q3 := hPr.cel p hp
      have q4 := hPr.reg p hp
      have HV : Hid (vB L (L.length - k) p = b1 (kd L p) + if lC (L[prv L p]?.getD 0) then 0 else vB L (L.length - (k + 1)) (prv L p)) := by
        show _ = _
        rw [show L.length - k = (L.length - (k + 1)) + 1 from by omega, vB]
      have HK : Hid (kd L p = bW (L[p]?.getD 0)) := rfl
      have hgl := hPr.lt
      have ha := getD_lt hE (prv L p)
      have he := getD_lt hE p
      have HB : Hid _ := hb
      have hli : ((L.length : Int) - 1).toNat = L.length - 1 := by omega
      clear hPr hb
      generalize hpp : prv L p = pp at *
      generalize L[pp]?.getD 0 = a at *
      generalize L[p]?.getD 0 = e at *
      generalize thrOf L p = t at *
      generalize cellOf L p = c at *
      generalize (if kd L p then 0 else regOf L p) = rg at *
      rw [HK.out] at HV
      have hpl : pp < L.length := by rw [← hpp]; exact Nat.mod_lt _ (by omega)
      rcases hat with hat | ⟨hat, hpe⟩
      · subst hat
        have hp0 : ¬ ((p : Int) < 0) := by omega
        have hp1 : ¬ ((L.length : Int) ≤ (p : Int)) := by omega
        have HNX : Hid ((Value.int .i64 ((p : Int) - 1) = .int .i64 (pp : Int)) ∨ (Value.int .i64 ((p : Int) - 1) = .int .i64 (-1) ∧ pp = L.length - 1)) := by
          show _ ∨ _
          by_cases h0 : p = 0
          · subst h0
            rw [prv_zero L (by omega)] at hpp
            exact Or.inr ⟨by simp, hpp.symm⟩
          · rw [prv_pos L (by omega) hp] at hpp
            exact Or.inl (by rw [← hpp]; congr 1; omega)
        clear hpp
        go_wp2_with fail
        refine (isWrite_any a e t c rg he _).mono ?_
        rintro r w1 ⟨rfl, hb1⟩
        have r0 := (hb1.cell (p := ⟨g, p * 5, none⟩) hgl).trans q0
        have HB1 : Hid (Below w.heap.size w w1) := HB.out.trans (hb1.mono HB.out.size)
        clear q0 q1 q2 q3 q4 hb1
        cases hw : bW e
        · cases hC : lC a
          · rw [hw, hC] at HV
            have HW2 : Hid (wv + vB L (L.length - (k + 1)) pp = vB L L.length i) := by show _ = _; rw [← HS.out, HV.out]; simp [b1]
            go_wp2_with (go_at_call 55; refine (leavesCell_any a ha _).mono ?_; rintro r w2 ⟨rfl, rfl⟩; rw [hC])
            go_roundw
            case rel => exact ⟨k + 1, pp, wv, by omega, hpl, by go_num, HNX.out, rfl, HW2.out, HB1.out⟩
            case measure => simp [intOf]; omega
          · rw [hw, hC] at HV
            have HW2 : Hid (wv = vB L L.length i) := by show _ = _; rw [← HS.out, HV.out]; simp [b1]
            go_wp2_with (go_at_call 55; refine (leavesCell_any a ha _).mono ?_; rintro r w2 ⟨rfl, rfl⟩; rw [hC])
            go_ret
            exact ⟨by rw [← HW2.out]; rfl, HB1.out⟩
        · cases hC : lC a
          · rw [hw, hC] at HV
            have HW2 : Hid (wv + 1 + vB L (L.length - (k + 1)) pp = vB L L.length i) := by show _ = _; rw [← HS.out, HV.out]; simp [b1]; omega
            go_wp2_with (go_at_call 55; refine (leavesCell_any a ha _).mono ?_; rintro r w2 ⟨rfl, rfl⟩; rw [hC])
            go_roundw
            case rel => exact ⟨k + 1, pp, wv + 1, by omega, hpl, by go_num, HNX.out, by go_num, HW2.out, HB1.out⟩
            case measure => simp [intOf]; omega
          · rw [hw, hC] at HV
            have HW2 : Hid (wv + 1 = vB L L.length i) := by show _ = _; rw [← HS.out, HV.out]; simp [b1]
            go_wp2_with (go_at_call 55; refine (leavesCell_any a ha _).mono ?_; rintro r w2 ⟨rfl, rfl⟩; rw [hC])
            go_ret
            exact ⟨by rw [← HW2.out]; simp, HB1.out⟩
      · subst hat
        subst hpe
        have HNX : Hid ((Value.int .i64 ((L.length : Int) - 1 - 1) = .int .i64 (pp : Int)) ∨ (Value.int .i64 ((L.length : Int) - 1 - 1) = .int .i64 (-1) ∧ pp = L.length - 1)) := by
          show _ ∨ _
          by_cases h0 : L.length - 1 = 0
          · rw [h0, prv_zero L (by omega)] at hpp
            exact Or.inr ⟨by congr 1; omega, hpp.symm⟩
          · rw [prv_pos L (by omega) hp] at hpp
            exact Or.inl (by rw [← hpp]; congr 1; omega)
        clear hpp
        go_wp2_with fail
        refine (isWrite_any a e t c rg he _).mono ?_
        rintro r w1 ⟨rfl, hb1⟩
        have r0 := (hb1.cell (p := ⟨g, (L.length - 1) * 5, none⟩) hgl).trans q0
        have HB1 : Hid (Below w.heap.size w w1) := HB.out.trans (hb1.mono HB.out.size)
        clear q0 q1 q2 q3 q4 hb1
        cases hw : bW e
        · cases hC : lC a
          · rw [hw, hC] at HV
            have HW2 : Hid (wv + vB L (L.length - (k + 1)) pp = vB L L.length i) := by show _ = _; rw [← HS.out, HV.out]; simp [b1]
            go_wp2_with (go_at_call 55; refine (leavesCell_any a ha _).mono ?_; rintro r w2 ⟨rfl, rfl⟩; rw [hC])
            go_roundw
            case rel => exact ⟨k + 1, pp, wv, by omega, hpl, by go_num, HNX.out, rfl, HW2.out, HB1.out⟩
            case measure => simp [intOf]; omega
          · rw [hw, hC] at HV
            have HW2 : Hid (wv = vB L L.length i) := by show _ = _; rw [← HS.out, HV.out]; simp [b1]
            go_wp2_with (go_at_call 55; refine (leavesCell_any a ha _).mono ?_; rintro r w2 ⟨rfl, rfl⟩; rw [hC])
            go_ret
            exact ⟨by rw [← HW2.out]; rfl, HB1.out⟩
        · cases hC : lC a
          · rw [hw, hC] at HV
            have HW2 : Hid (wv + 1 + vB L (L.length - (k + 1)) pp = vB L L.length i) := by show _ = _; rw [← HS.out, HV.out]; simp [b1]; omega
            go_wp2_with (go_at_call 55; refine (leavesCell_any a ha _).mono ?_; rintro r w2 ⟨rfl, rfl⟩; rw [hC])
            go_roundw
            case rel => exact ⟨k + 1, pp, wv + 1, by omega, hpl, by go_num, HNX.out, by go_num, HW2.out, HB1.out⟩
            case measure => simp [intOf]; omega
          · rw [hw, hC] at HV
            have HW2 : Hid (wv + 1 = vB L L.length i) := by show _ = _; rw [← HS.out, HV.out]; simp [b1]
            go_wp2_with (go_at_call 55; refine (leavesCell_any a ha _).mono ?_; rintro r w2 ⟨rfl, rfl⟩; rw [hC])
            go_ret
            exact ⟨by rw [← HW2.out]; simp, HB1.out⟩
    · have hke : k = L.length := by omega
      subst hke
      have HE : Hid (wv = vB L L.length i) := by show _ = _; have h1 := HS.out; rw [Nat.sub_self, vB] at h1; omega
      go_wp2
      go_ret
      exact ⟨by rw [← HE.out]; rfl, hb⟩

end Go.Proofs.YtokfiflflcfidabDoor
