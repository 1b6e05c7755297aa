import Derived.Test.YtokfiflflcfidabDoorRows
import Derived.Test.YtokfiflflcfidabDoorHapW
import Derived.WalkKit
import Derived.WalkSpells
import Derived.WalkLawsBesides
import Derived.RegionTactic
import Derived.BigRegion
import Derived.Deep.RegionWith
import Derived.Deep.RegionLaw
import Derived.Deep.QuietTactic
import Derived.BigQuiet
namespace Go.Proofs.YtokfiflflcfidabDoor
open Go.RowKit

theorem byCode_no {L : List Nat} {f s : Nat} (h : ¬ (f < s ∧ thrOf L f = thrOf L s ∧ (kd L f = false ∨ kd L s = true ∨ ∃ k, f < k ∧ k ≤ s ∧ fE (L[prv L k]?.getD 0) = true))) : byCode L f s = false := by
  rw [Bool.eq_false_iff]
  exact fun e => h ((byCode_iff L f s).1 e)

set_option maxRecDepth 100000 in
set_option maxHeartbeats 1600000 in
theorem firstByCode_any (L : List Nat) (g cap f s : Nat) (w : World) (hP : PRd w g L) (hE : ∀ x ∈ L, x < 14) (hf : f < L.length) (hs : s < L.length) (hl2 : L.length ≤ 64) :
    Calls Tryd.prog 101 #[.slice (some ⟨g, 0, none⟩) L.length cap, .int .i64 f, .int .i64 s] w fun v w' => v = .returned (.bool (byCode L f s)) ∧ Below w.heap.size w w' := by
  have hf0 : ¬ ((f : Int) < 0) := by omega
  have hs1 : ¬ ((L.length : Int) ≤ (s : Int)) := by omega
  go_enter Tryd.func101, Tryd.ntmps101
  by_cases hlt : f < s
  · have hge : ¬ ((s : Int) ≤ (f : Int)) := by omega
    have q0 := hP.into f hf
    have q1 := hP.out f hf
    have q2 := hP.thr f hf
    have q3 := hP.cel f hf
    have q4 := hP.reg f hf
    have z2 := hP.thr s hs
    have HKF : Hid (kd L f = bW (L[f]?.getD 0)) := rfl
    have HKS : Hid (kd L s = bW (L[s]?.getD 0)) := rfl
    have he := getD_lt hE f
    have hes := getD_lt hE s
    have hTT : Hid (thrOf L f = thrOf L s ∨ ¬ thrOf L f = thrOf L s) := Classical.em _
    have HN := @byCode_no L f s
    have HY := (byCode_iff L f s).2
    have HNH : Hid _ := HN
    have HYH : Hid _ := HY
    clear HN HY
    generalize L[prv L f]?.getD 0 = a at *
    generalize L[f]?.getD 0 = e at *
    generalize htf : thrOf L f = t at *
    generalize cellOf L f = c at *
    generalize (if kd L f then 0 else regOf L f) = rg at *
    generalize hts : thrOf L s = ts at *
    have HTF : Hid _ := htf
    have HTS : Hid _ := hts
    clear htf hts
    rcases hTT.out with ht | ht
    · have htI : ((t : Int) == (ts : Int)) = true := by rw [beq_iff_eq]; omega
      have HT : Hid _ := ht
      subst ht
      go_wp2
      go_quiet (fail)
      go_wp2_with fail
      refine (isWrite_any a e t c rg he _).mono ?_
      rintro r w1 ⟨rfl, hb1⟩
      have hb01 : Below w.heap.size w w1 := (below_drewN (Below.refl _ _) _).trans hb1
      have HB1 : Hid _ := hb01
      have hP1 := hP.kept hb01
      have y0 := hP1.into s hs
      have y1 := hP1.out s hs
      have y2 := hP1.thr s hs
      have y3 := hP1.cel s hs
      have y4 := hP1.reg s hs
      clear q0 q1 q2 q3 q4 z2 hb1 hb01
      cases hkf : bW e
      · have HR : Hid (byCode L f s = true) := HYH.out ⟨hlt, trivial, Or.inl (HKF.out.trans hkf)⟩
        clear y0 y1 y2 y3 y4
        go_wp2
        go_ret
        exact ⟨by rw [HR.out]; rfl, HB1.out⟩
      · generalize L[prv L s]?.getD 0 = a2 at *
        generalize L[s]?.getD 0 = e2 at *
        generalize thrOf L s = t2 at *
        generalize cellOf L s = c2 at *
        generalize (if kd L s then 0 else regOf L s) = rg2 at *
        go_wp2_with fail
        refine (isWrite_any a2 e2 t2 c2 rg2 hes _).mono ?_
        rintro r w2 ⟨rfl, hb2⟩
        have hb02 : Below w.heap.size w w2 := HB1.out.trans (hb2.mono HB1.out.size)
        have HB2 : Hid _ := hb02
        clear y0 y1 y2 y3 y4 hb2 hb02 hP1
        cases hks : bW e2
        · go_wp2
          go_loopw [7] (fun i wr => ∃ n : Nat, f + 1 ≤ n ∧ n ≤ s + 1 ∧ i = .int .i64 n ∧ (∀ k, f < k → k < n → fE (L[prv L k]?.getD 0) = false) ∧ Below w.heap.size w wr) (fun i _ => s + 1 - (intOf i).toNat)
          case atStart => exact ⟨f + 1, by omega, by omega, by go_num, fun k h1 h2 => by omega, HB2.out⟩
          case round =>
            obtain ⟨n, hn1, hn2, rfl, hno, hb⟩ := hrel
            have HNO : Hid _ := hno
            clear hno HB1 HB2
            by_cases hle : n ≤ s
            · have hle2 : (n : Int) ≤ (s : Int) := by omega
              have hPr := hP.kept hb
              have x0 := hPr.into n (by omega)
              have ha := getD_lt hE (prv L n)
              have HB : Hid _ := hb
              clear hb hPr
              have HFN : Hid (fE (L[prv L n]?.getD 0) = true → byCode L f s = true) := fun h => HYH.out ⟨hlt, trivial, Or.inr (Or.inr ⟨n, by omega, hle, h⟩)⟩
              have HNX : Hid (fE (L[prv L n]?.getD 0) = false → ∀ k, f < k → k < n + 1 → fE (L[prv L k]?.getD 0) = false) := fun h k h1 h2 => by
                by_cases hk : k = n
                · rw [hk]; exact h
                · exact HNO.out k h1 (by omega)
              generalize L[prv L n]?.getD 0 = x at *
              cases hx : fE x
              · go_wp2_with (go_at_call 84; refine (isFence_any x ha _).mono ?_; rintro r w3 ⟨rfl, rfl⟩; rw [hx])
                go_roundw
                case rel => exact ⟨n + 1, by omega, by omega, by go_num, HNX.out hx, HB.out⟩
                case measure => simp [intOf]; omega
              · have HR : Hid (byCode L f s = true) := HFN.out hx
                go_wp2_with (go_at_call 84; refine (isFence_any x ha _).mono ?_; rintro r w3 ⟨rfl, rfl⟩; rw [hx])
                go_ret
                exact ⟨by rw [HR.out]; rfl, HB.out⟩
            · have hle2 : ¬ ((n : Int) ≤ (s : Int)) := by omega
              have HR : Hid (byCode L f s = false) := HNH.out (fun h => by
                rcases h.2.2 with h1 | h1 | ⟨k, h1, h2, h3⟩
                · rw [HKF.out, hkf] at h1; cases h1
                · rw [HKS.out, hks] at h1; cases h1
                · rw [HNO.out k h1 (by omega)] at h3; cases h3)
              have HB : Hid _ := hb
              clear hb
              go_wp2
              go_ret
              exact ⟨by rw [HR.out]; rfl, HB.out⟩
        · have HR : Hid (byCode L f s = true) := HYH.out ⟨hlt, trivial, Or.inr (Or.inl (HKS.out.trans hks))⟩
          go_wp2
          go_ret
          exact ⟨by rw [HR.out]; rfl, HB2.out⟩
    · have htI : ((t : Int) == (ts : Int)) = false := by rw [beq_eq_false_iff_ne]; omega
      have HR : Hid (byCode L f s = false) := HNH.out (fun h => ht h.2.1)
      go_wp2
      go_quiet (fail)
      go_wp2
      go_ret
      exact ⟨by rw [HR.out]; rfl, below_drewN (Below.refl _ _) _⟩
  · have hge : ((s : Int) ≤ (f : Int)) := by omega
    have HR : Hid (byCode L f s = false) := byCode_no (fun h => hlt h.1)
    go_wp2
    go_ret
    exact ⟨by rw [HR.out]; rfl, Below.refl _ _⟩

end Go.Proofs.YtokfiflflcfidabDoor
