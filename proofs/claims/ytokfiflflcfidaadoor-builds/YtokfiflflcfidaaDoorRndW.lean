import Derived.Test.YtokfiflflcfidaaDoorRows
import Derived.Test.YtokfiflflcfidaaDoorChzX
import Derived.Test.YtokfiflflcfidaaDoorPredsC
import Derived.WalkKit
import Derived.WalkSpells
import Derived.WalkLawsBesides
import Derived.RegionTactic
import Derived.BigRegion
import Derived.Deep.QuietTactic
import Derived.BigQuiet
namespace Go.Proofs.YtokfiflflcfidaaDoor
open Go.RowKit

/-- does edge i hold in a choice? -/
def hldB (l : List Ev) (fr pl : Nat → Nat) (i : Nat) : Bool :=
  !(isRf (l[i]?.getD ev0).af && fr ((i + 1) % l.length) != i + 1) && !(isCo (l[i]?.getD ev0).af && decide (pl ((i + 1) % l.length) ≤ pl i)) && !(isFr (l[i]?.getD ev0).af && (decide (0 < fr i) && decide (pl ((i + 1) % l.length) ≤ pl (fr i - 1))))
/-- do all edges hold? -/
def rndB (l : List Ev) (fr pl : Nat → Nat) : Bool := (List.range l.length).all (hldB l fr pl)

theorem rnd_no {l : List Ev} {fr pl : Nat → Nat} {k : Nat} (hk : k < l.length) (h : hldB l fr pl k = false) : rndB l fr pl = false := by
  unfold rndB
  rw [List.all_eq_false]
  exact ⟨k, List.mem_range.2 hk, by rw [h]; simp⟩

set_option maxRecDepth 100000 in
set_option maxHeartbeats 6400000 in
theorem round_any (l : List Ev) (b cap : Nat) (fr pl : Nat → Nat) (fv pv : Value) (w : World) (hA : EArr w b l) (hl : 0 < l.length) (hl2 : l.length ≤ 16) (haf : ∀ i, i < l.length → (l[i]?.getD ev0).af < 14)
    (hF : RdZ w fv ((List.range l.length).map fun i => (fr i : Int) - 1)) (hP : RdZ w pv ((List.range l.length).map fun i => (pl i : Int))) (hfr : ∀ i, i < l.length → fr i ≤ l.length) :
    Calls Tryd.prog 29 #[.slice (some ⟨b, 0, none⟩) l.length cap, .agg #[fv, pv]] w fun r w' => r = .returned (.bool (rndB l fr pl)) ∧ Below w.heap.size w w' := by
  have HAF : Hid _ := haf
  have HFR : Hid _ := hfr
  obtain ⟨fa, fc, rfl, hF⟩ := hF
  obtain ⟨pa, pc, rfl, hP⟩ := hP
  obtain ⟨nf, hnf⟩ : ∃ nf, nf = ((List.range l.length).map fun i => (fr i : Int) - 1).length := ⟨_, rfl⟩
  obtain ⟨np, hnp⟩ : ∃ np, np = ((List.range l.length).map fun i => (pl i : Int)).length := ⟨_, rfl⟩
  rw [← hnf, ← hnp]
  have hnf2 : nf = l.length := by rw [hnf]; simp
  have hnp2 : np = l.length := by rw [hnp]; simp
  subst hnf2
  subst hnp2
  clear hnf hnp
  obtain ⟨fb, hfa⟩ : ∃ fb, fa = some ⟨fb, 0, none⟩ := by
    obtain ⟨b0, e1, _⟩ := hF 0 (by simpa using hl)
    exact ⟨b0, e1⟩
  obtain ⟨pb, hpa⟩ : ∃ pb, pa = some ⟨pb, 0, none⟩ := by
    obtain ⟨b0, e1, _⟩ := hP 0 (by simpa using hl)
    exact ⟨b0, e1⟩
  subst hfa
  subst hpa
  have HFC : Hid (fb < w.heap.size ∧ ∀ i, i < l.length → w.cell? ⟨fb, i, none⟩ = some (.int .i64 ((fr i : Int) - 1))) := by
    refine ⟨?_, fun i hi => ?_⟩
    · obtain ⟨b0, e1, e2, e3⟩ := hF 0 (by simpa using hl)
      simp only [Option.some.injEq, Addr.mk.injEq, and_true] at e1
      rw [e1]; exact e2
    · obtain ⟨b0, e1, e2, e3⟩ := hF i (by simpa using hi)
      simp only [Option.some.injEq, Addr.mk.injEq, and_true] at e1
      rw [e1]
      simpa [hi] using e3
  have HPC : Hid (pb < w.heap.size ∧ ∀ i, i < l.length → w.cell? ⟨pb, i, none⟩ = some (.int .i64 (pl i : Int))) := by
    refine ⟨?_, fun i hi => ?_⟩
    · obtain ⟨b0, e1, e2, e3⟩ := hP 0 (by simpa using hl)
      simp only [Option.some.injEq, Addr.mk.injEq, and_true] at e1
      rw [e1]; exact e2
    · obtain ⟨b0, e1, e2, e3⟩ := hP i (by simpa using hi)
      simp only [Option.some.injEq, Addr.mk.injEq, and_true] at e1
      rw [e1]
      simpa [hi] using e3
  clear hF hP haf hfr
  go_enter Tryd.func29, Tryd.ntmps29
  go_wp2
  go_loopw [5] (fun i wr => ∃ k : Nat, k ≤ l.length ∧ i = .int .i64 k ∧ (∀ j, j < k → hldB l fr pl j = true) ∧ Below w.heap.size w wr ∧ w.heap.size < wr.heap.size ∧ wr.cell? ⟨w.heap.size, 0, none⟩ = some (.slice (some ⟨fb, 0, none⟩) l.length fc) ∧ wr.cell? ⟨w.heap.size, 1, none⟩ = some (.slice (some ⟨pb, 0, none⟩) l.length pc)) (fun i _ => l.length - (intOf i).toNat)
  case atStart => exact ⟨0, Nat.zero_le _, rfl, fun j hj => absurd hj (by omega), (Below.refl _ _).alloc (Nat.le_refl _) _, by simp, by simp, by simp⟩
  case round =>
    obtain ⟨k, hk, rfl, hall, hb, hsz, c0, c1⟩ := hrel
    have HALL : Hid _ := hall
    have HB : Hid _ := hb
    by_cases hlt : k < l.length
    · have q3 := ((hA.kept hb).at hlt).af
      have he := HAF.out k hlt
      obtain ⟨m, hm⟩ : ∃ m, m = (k + 1) % l.length := ⟨_, rfl⟩
      have hml : m < l.length := by rw [hm]; exact Nat.mod_lt _ hl
      have hmi : ((k : Int) + 1) % (l.length : Int) = (m : Int) := by rw [hm]; simp
      have HH : Hid (hldB l fr pl k = (!(isRf (l[k]?.getD ev0).af && fr m != k + 1) && !(isCo (l[k]?.getD ev0).af && decide (pl m ≤ pl k)) && !(isFr (l[k]?.getD ev0).af && (decide (0 < fr k) && decide (pl m ≤ pl (fr k - 1)))))) := by rw [hm]; rfl
      have HNO : Hid _ := rnd_no (fr := fr) (pl := pl) hlt
      have hfb := HFC.out.1
      have hpb := HPC.out.1
      have f1 := (hb.cell (p := ⟨fb, m, none⟩) hfb).trans (HFC.out.2 m hml)
      have f2 := (hb.cell (p := ⟨fb, k, none⟩) hfb).trans (HFC.out.2 k hlt)
      have p1 := (hb.cell (p := ⟨pb, k, none⟩) hpb).trans (HPC.out.2 k hlt)
      have p2 := (hb.cell (p := ⟨pb, m, none⟩) hpb).trans (HPC.out.2 m hml)
      have hfrk := HFR.out k hlt
      have HP3 : Hid (0 < fr k → wr.cell? ⟨pb, fr k - 1, none⟩ = some (.int .i64 (pl (fr k - 1) : Int))) := fun h => (hb.cell (p := ⟨pb, fr k - 1, none⟩) hpb).trans (HPC.out.2 (fr k - 1) (by omega))
      have hrel2 : ∀ M, (∀ j, j < k + 1 → hldB l fr pl j = true) ∨ hldB l fr pl k = false ∨ M = 0 → True := fun _ _ => trivial
      have hfbr : fb < wr.heap.size := by omega
      have hpbr : pb < wr.heap.size := by omega
      clear hm hb hall hrel2
      generalize (l[k]?.getD ev0).af = e at *
      have HNX : Hid (hldB l fr pl k = true → ∀ j, j < k + 1 → hldB l fr pl j = true) := by
        intro h j hj
        by_cases hjk : j = k
        · rw [hjk]; exact h
        · exact HALL.out j (by omega)
      have HKEEP : Hid (∀ n0, Below w.heap.size w (wr.drewN n0) ∧ w.heap.size < (wr.drewN n0).heap.size ∧ (wr.drewN n0).cell? ⟨w.heap.size, 0, none⟩ = some (.slice (some ⟨fb, 0, none⟩) l.length fc) ∧ (wr.drewN n0).cell? ⟨w.heap.size, 1, none⟩ = some (.slice (some ⟨pb, 0, none⟩) l.length pc)) := fun n0 => ⟨below_drewN HB.out n0, hsz, c0, c1⟩
      cases hrf : isRf e
      · cases hco : isCo e
        · cases hfr : isFr e
          · have HX : Hid (hldB l fr pl k = true) := by show _ = _; rw [HH.out, hrf, hco, hfr]; rfl
            have HCO : Hid (∀ w, Calls Tryd.prog 48 #[.int .i64 e] w fun r w' => r = .returned (.bool false) ∧ w' = w) := fun w => by have h := coR_any e he w; rw [hco] at h; exact h
            have HFRC : Hid (∀ w, Calls Tryd.prog 49 #[.int .i64 e] w fun r w' => r = .returned (.bool false) ∧ w' = w) := fun w => by have h := frR_any e he w; rw [hfr] at h; exact h
            go_wp2_with (first | (go_at_call 47; refine (rfR_any e he _).mono ?_; rintro r w9 ⟨rfl, rfl⟩; rw [hrf]) | (go_at_call 48; refine (coR_any e he _).mono ?_; rintro r w9 ⟨rfl, rfl⟩; rw [hco]) | (go_at_call 49; refine (frR_any e he _).mono ?_; rintro r w9 ⟨rfl, rfl⟩; rw [hfr]))
            go_quiet (first | (go_at_call 48; refine Calls.mono (HCO.out _) ?_; rintro r w8 ⟨rfl, rfl⟩; exact ⟨rfl, _, rfl⟩) | (go_at_call 49; refine Calls.mono (HFRC.out _) ?_; rintro r w8 ⟨rfl, rfl⟩; exact ⟨rfl, _, rfl⟩))
            go_wp2_with (first | (go_at_call 47; refine (rfR_any e he _).mono ?_; rintro r w9 ⟨rfl, rfl⟩; rw [hrf]) | (go_at_call 48; refine (coR_any e he _).mono ?_; rintro r w9 ⟨rfl, rfl⟩; rw [hco]) | (go_at_call 49; refine (frR_any e he _).mono ?_; rintro r w9 ⟨rfl, rfl⟩; rw [hfr]))
            go_quiet (first | (go_at_call 48; refine Calls.mono (HCO.out _) ?_; rintro r w8 ⟨rfl, rfl⟩; exact ⟨rfl, _, rfl⟩) | (go_at_call 49; refine Calls.mono (HFRC.out _) ?_; rintro r w8 ⟨rfl, rfl⟩; exact ⟨rfl, _, rfl⟩))
            go_wp2
            go_roundw
            case rel => exact ⟨k + 1, by omega, by go_num, HNX.out HX.out, HKEEP.out _⟩
            case measure => simp [intOf]; omega
          · obtain ⟨z, hz⟩ : ∃ z : Int, z = (fr k : Int) - 1 := ⟨_, rfl⟩
            rw [← hz] at f2
            by_cases hf0 : fr k = 0
            · have HX : Hid (hldB l fr pl k = true) := by show _ = _; rw [HH.out, hrf, hco, hfr, hf0]; rfl
              have HCO : Hid (∀ w, Calls Tryd.prog 48 #[.int .i64 e] w fun r w' => r = .returned (.bool false) ∧ w' = w) := fun w => by have h := coR_any e he w; rw [hco] at h; exact h
              have HFRC : Hid (∀ w, Calls Tryd.prog 49 #[.int .i64 e] w fun r w' => r = .returned (.bool true) ∧ w' = w) := fun w => by have h := frR_any e he w; rw [hfr] at h; exact h
              have hn1 : z < 0 := by omega
              have hn2 : ¬ ((0 : Int) ≤ z) := by omega
              have hd : decide ((0 : Int) ≤ z) = false := by rw [decide_eq_false_iff_not]; omega
              clear hz
              clear hf0
              go_wp2_with (first | (go_at_call 47; refine (rfR_any e he _).mono ?_; rintro r w9 ⟨rfl, rfl⟩; rw [hrf]) | (go_at_call 48; refine (coR_any e he _).mono ?_; rintro r w9 ⟨rfl, rfl⟩; rw [hco]) | (go_at_call 49; refine (frR_any e he _).mono ?_; rintro r w9 ⟨rfl, rfl⟩; rw [hfr]))
              go_quiet (first | (go_at_call 48; refine Calls.mono (HCO.out _) ?_; rintro r w8 ⟨rfl, rfl⟩; exact ⟨rfl, _, rfl⟩) | (go_at_call 49; refine Calls.mono (HFRC.out _) ?_; rintro r w8 ⟨rfl, rfl⟩; exact ⟨rfl, _, rfl⟩))
              go_wp2_with (first | (go_at_call 47; refine (rfR_any e he _).mono ?_; rintro r w9 ⟨rfl, rfl⟩; rw [hrf]) | (go_at_call 48; refine (coR_any e he _).mono ?_; rintro r w9 ⟨rfl, rfl⟩; rw [hco]) | (go_at_call 49; refine (frR_any e he _).mono ?_; rintro r w9 ⟨rfl, rfl⟩; rw [hfr]))
              go_quiet (first | (go_at_call 48; refine Calls.mono (HCO.out _) ?_; rintro r w8 ⟨rfl, rfl⟩; exact ⟨rfl, _, rfl⟩) | (go_at_call 49; refine Calls.mono (HFRC.out _) ?_; rintro r w8 ⟨rfl, rfl⟩; exact ⟨rfl, _, rfl⟩))
              go_wp2
              go_roundw
              case rel => exact ⟨k + 1, by omega, by go_num, HNX.out HX.out, HKEEP.out _⟩
              case measure => simp [intOf]; omega
            · have hd : decide ((0 : Int) ≤ z) = true := by rw [decide_eq_true_iff]; omega
              have p3 := HP3.out (by omega)
              have hfi : z.toNat = fr k - 1 := by omega
              have hfl : z < (l.length : Int) := by omega
              have hfn : (0 : Int) ≤ z := by omega
              clear hz
              by_cases hp : pl m ≤ pl (fr k - 1)
              · have HX : Hid (hldB l fr pl k = false) := by show _ = _; rw [HH.out, hrf, hco, hfr, decide_eq_true hp, decide_eq_true (show 0 < fr k by omega)]; rfl
                have HCO : Hid (∀ w, Calls Tryd.prog 48 #[.int .i64 e] w fun r w' => r = .returned (.bool false) ∧ w' = w) := fun w => by have h := coR_any e he w; rw [hco] at h; exact h
                have HFRC : Hid (∀ w, Calls Tryd.prog 49 #[.int .i64 e] w fun r w' => r = .returned (.bool true) ∧ w' = w) := fun w => by have h := frR_any e he w; rw [hfr] at h; exact h
                go_wp2_with (first | (go_at_call 47; refine (rfR_any e he _).mono ?_; rintro r w9 ⟨rfl, rfl⟩; rw [hrf]) | (go_at_call 48; refine (coR_any e he _).mono ?_; rintro r w9 ⟨rfl, rfl⟩; rw [hco]) | (go_at_call 49; refine (frR_any e he _).mono ?_; rintro r w9 ⟨rfl, rfl⟩; rw [hfr]))
                go_quiet (first | (go_at_call 48; refine Calls.mono (HCO.out _) ?_; rintro r w8 ⟨rfl, rfl⟩; exact ⟨rfl, _, rfl⟩) | (go_at_call 49; refine Calls.mono (HFRC.out _) ?_; rintro r w8 ⟨rfl, rfl⟩; exact ⟨rfl, _, rfl⟩))
                go_wp2_with (first | (go_at_call 47; refine (rfR_any e he _).mono ?_; rintro r w9 ⟨rfl, rfl⟩; rw [hrf]) | (go_at_call 48; refine (coR_any e he _).mono ?_; rintro r w9 ⟨rfl, rfl⟩; rw [hco]) | (go_at_call 49; refine (frR_any e he _).mono ?_; rintro r w9 ⟨rfl, rfl⟩; rw [hfr]))
                go_quiet (first | (go_at_call 48; refine Calls.mono (HCO.out _) ?_; rintro r w8 ⟨rfl, rfl⟩; exact ⟨rfl, _, rfl⟩) | (go_at_call 49; refine Calls.mono (HFRC.out _) ?_; rintro r w8 ⟨rfl, rfl⟩; exact ⟨rfl, _, rfl⟩))
                go_wp2
                go_ret
                first | exact ⟨by rw [HNO.out HX.out]; rfl, (HKEEP.out _).1⟩ | exact ⟨by rw [HNO.out HX.out]; rfl, below_drewN (below_drewN HB.out _) _⟩
              · have HX : Hid (hldB l fr pl k = true) := by show _ = _; rw [HH.out, hrf, hco, hfr, decide_eq_false hp]; simp
                have HCO : Hid (∀ w, Calls Tryd.prog 48 #[.int .i64 e] w fun r w' => r = .returned (.bool false) ∧ w' = w) := fun w => by have h := coR_any e he w; rw [hco] at h; exact h
                have HFRC : Hid (∀ w, Calls Tryd.prog 49 #[.int .i64 e] w fun r w' => r = .returned (.bool true) ∧ w' = w) := fun w => by have h := frR_any e he w; rw [hfr] at h; exact h
                go_wp2_with (first | (go_at_call 47; refine (rfR_any e he _).mono ?_; rintro r w9 ⟨rfl, rfl⟩; rw [hrf]) | (go_at_call 48; refine (coR_any e he _).mono ?_; rintro r w9 ⟨rfl, rfl⟩; rw [hco]) | (go_at_call 49; refine (frR_any e he _).mono ?_; rintro r w9 ⟨rfl, rfl⟩; rw [hfr]))
                go_quiet (first | (go_at_call 48; refine Calls.mono (HCO.out _) ?_; rintro r w8 ⟨rfl, rfl⟩; exact ⟨rfl, _, rfl⟩) | (go_at_call 49; refine Calls.mono (HFRC.out _) ?_; rintro r w8 ⟨rfl, rfl⟩; exact ⟨rfl, _, rfl⟩))
                go_wp2_with (first | (go_at_call 47; refine (rfR_any e he _).mono ?_; rintro r w9 ⟨rfl, rfl⟩; rw [hrf]) | (go_at_call 48; refine (coR_any e he _).mono ?_; rintro r w9 ⟨rfl, rfl⟩; rw [hco]) | (go_at_call 49; refine (frR_any e he _).mono ?_; rintro r w9 ⟨rfl, rfl⟩; rw [hfr]))
                go_quiet (first | (go_at_call 48; refine Calls.mono (HCO.out _) ?_; rintro r w8 ⟨rfl, rfl⟩; exact ⟨rfl, _, rfl⟩) | (go_at_call 49; refine Calls.mono (HFRC.out _) ?_; rintro r w8 ⟨rfl, rfl⟩; exact ⟨rfl, _, rfl⟩))
                go_wp2
                go_roundw
                case rel => exact ⟨k + 1, by omega, by go_num, HNX.out HX.out, HKEEP.out _⟩
                case measure => simp [intOf]; omega
        · have hfr : isFr e = false := by unfold isCo at hco; unfold isFr; simp at hco ⊢; omega
          by_cases hp : pl m ≤ pl k
          · have HX : Hid (hldB l fr pl k = false) := by show _ = _; rw [HH.out, hrf, hco, decide_eq_true hp]; simp
            have HCO : Hid (∀ w, Calls Tryd.prog 48 #[.int .i64 e] w fun r w' => r = .returned (.bool true) ∧ w' = w) := fun w => by have h := coR_any e he w; rw [hco] at h; exact h
            have HFRC : Hid (∀ w, Calls Tryd.prog 49 #[.int .i64 e] w fun r w' => r = .returned (.bool false) ∧ w' = w) := fun w => by have h := frR_any e he w; rw [hfr] at h; exact h
            go_wp2_with (first | (go_at_call 47; refine (rfR_any e he _).mono ?_; rintro r w9 ⟨rfl, rfl⟩; rw [hrf]) | (go_at_call 48; refine (coR_any e he _).mono ?_; rintro r w9 ⟨rfl, rfl⟩; rw [hco]) | (go_at_call 49; refine (frR_any e he _).mono ?_; rintro r w9 ⟨rfl, rfl⟩; rw [hfr]))
            go_quiet (first | (go_at_call 48; refine Calls.mono (HCO.out _) ?_; rintro r w8 ⟨rfl, rfl⟩; exact ⟨rfl, _, rfl⟩) | (go_at_call 49; refine Calls.mono (HFRC.out _) ?_; rintro r w8 ⟨rfl, rfl⟩; exact ⟨rfl, _, rfl⟩))
            go_wp2
            go_ret
            first | exact ⟨by rw [HNO.out HX.out]; rfl, (HKEEP.out _).1⟩ | exact ⟨by rw [HNO.out HX.out]; rfl, below_drewN (below_drewN HB.out _) _⟩
          · have HX : Hid (hldB l fr pl k = true) := by show _ = _; rw [HH.out, hrf, hco, hfr, decide_eq_false hp]; simp
            have HCO : Hid (∀ w, Calls Tryd.prog 48 #[.int .i64 e] w fun r w' => r = .returned (.bool true) ∧ w' = w) := fun w => by have h := coR_any e he w; rw [hco] at h; exact h
            have HFRC : Hid (∀ w, Calls Tryd.prog 49 #[.int .i64 e] w fun r w' => r = .returned (.bool false) ∧ w' = w) := fun w => by have h := frR_any e he w; rw [hfr] at h; exact h
            go_wp2_with (first | (go_at_call 47; refine (rfR_any e he _).mono ?_; rintro r w9 ⟨rfl, rfl⟩; rw [hrf]) | (go_at_call 48; refine (coR_any e he _).mono ?_; rintro r w9 ⟨rfl, rfl⟩; rw [hco]) | (go_at_call 49; refine (frR_any e he _).mono ?_; rintro r w9 ⟨rfl, rfl⟩; rw [hfr]))
            go_quiet (first | (go_at_call 48; refine Calls.mono (HCO.out _) ?_; rintro r w8 ⟨rfl, rfl⟩; exact ⟨rfl, _, rfl⟩) | (go_at_call 49; refine Calls.mono (HFRC.out _) ?_; rintro r w8 ⟨rfl, rfl⟩; exact ⟨rfl, _, rfl⟩))
            go_wp2_with (first | (go_at_call 47; refine (rfR_any e he _).mono ?_; rintro r w9 ⟨rfl, rfl⟩; rw [hrf]) | (go_at_call 48; refine (coR_any e he _).mono ?_; rintro r w9 ⟨rfl, rfl⟩; rw [hco]) | (go_at_call 49; refine (frR_any e he _).mono ?_; rintro r w9 ⟨rfl, rfl⟩; rw [hfr]))
            go_quiet (first | (go_at_call 48; refine Calls.mono (HCO.out _) ?_; rintro r w8 ⟨rfl, rfl⟩; exact ⟨rfl, _, rfl⟩) | (go_at_call 49; refine Calls.mono (HFRC.out _) ?_; rintro r w8 ⟨rfl, rfl⟩; exact ⟨rfl, _, rfl⟩))
            go_wp2
            go_roundw
            case rel => exact ⟨k + 1, by omega, by go_num, HNX.out HX.out, HKEEP.out _⟩
            case measure => simp [intOf]; omega
      · have hco : isCo e = false := by unfold isRf at hrf; unfold isCo; simp at hrf ⊢; omega
        have hfr : isFr e = false := by unfold isRf at hrf; unfold isFr; simp at hrf ⊢; omega
        by_cases hq : fr m = k + 1
        · have hqI : (((fr m : Int) - 1) != (k : Int)) = false := by rw [hq]; simp
          have HX : Hid (hldB l fr pl k = true) := by show _ = _; rw [HH.out, hrf, hco, hfr, hq]; simp
          have HCO : Hid (∀ w, Calls Tryd.prog 48 #[.int .i64 e] w fun r w' => r = .returned (.bool false) ∧ w' = w) := fun w => by have h := coR_any e he w; rw [hco] at h; exact h
          have HFRC : Hid (∀ w, Calls Tryd.prog 49 #[.int .i64 e] w fun r w' => r = .returned (.bool false) ∧ w' = w) := fun w => by have h := frR_any e he w; rw [hfr] at h; exact h
          clear hq
          go_wp2_with (first | (go_at_call 47; refine (rfR_any e he _).mono ?_; rintro r w9 ⟨rfl, rfl⟩; rw [hrf]) | (go_at_call 48; refine (coR_any e he _).mono ?_; rintro r w9 ⟨rfl, rfl⟩; rw [hco]) | (go_at_call 49; refine (frR_any e he _).mono ?_; rintro r w9 ⟨rfl, rfl⟩; rw [hfr]))
          go_quiet (first | (go_at_call 48; refine Calls.mono (HCO.out _) ?_; rintro r w8 ⟨rfl, rfl⟩; exact ⟨rfl, _, rfl⟩) | (go_at_call 49; refine Calls.mono (HFRC.out _) ?_; rintro r w8 ⟨rfl, rfl⟩; exact ⟨rfl, _, rfl⟩))
          go_wp2_with (first | (go_at_call 47; refine (rfR_any e he _).mono ?_; rintro r w9 ⟨rfl, rfl⟩; rw [hrf]) | (go_at_call 48; refine (coR_any e he _).mono ?_; rintro r w9 ⟨rfl, rfl⟩; rw [hco]) | (go_at_call 49; refine (frR_any e he _).mono ?_; rintro r w9 ⟨rfl, rfl⟩; rw [hfr]))
          go_quiet (first | (go_at_call 48; refine Calls.mono (HCO.out _) ?_; rintro r w8 ⟨rfl, rfl⟩; exact ⟨rfl, _, rfl⟩) | (go_at_call 49; refine Calls.mono (HFRC.out _) ?_; rintro r w8 ⟨rfl, rfl⟩; exact ⟨rfl, _, rfl⟩))
          go_wp2
          go_roundw
          case rel => exact ⟨k + 1, by omega, by go_num, HNX.out HX.out, HKEEP.out _⟩
          case measure => simp [intOf]; omega
        · have hqI : (((fr m : Int) - 1) != (k : Int)) = true := by rw [bne_iff_ne]; omega
          have HX : Hid (hldB l fr pl k = false) := by show _ = _; rw [HH.out, hrf]; simp [hq]
          have HCO : Hid (∀ w, Calls Tryd.prog 48 #[.int .i64 e] w fun r w' => r = .returned (.bool false) ∧ w' = w) := fun w => by have h := coR_any e he w; rw [hco] at h; exact h
          have HFRC : Hid (∀ w, Calls Tryd.prog 49 #[.int .i64 e] w fun r w' => r = .returned (.bool false) ∧ w' = w) := fun w => by have h := frR_any e he w; rw [hfr] at h; exact h
          go_wp2_with (first | (go_at_call 47; refine (rfR_any e he _).mono ?_; rintro r w9 ⟨rfl, rfl⟩; rw [hrf]) | (go_at_call 48; refine (coR_any e he _).mono ?_; rintro r w9 ⟨rfl, rfl⟩; rw [hco]) | (go_at_call 49; refine (frR_any e he _).mono ?_; rintro r w9 ⟨rfl, rfl⟩; rw [hfr]))
          go_ret
          exact ⟨by rw [HNO.out HX.out]; rfl, HB.out⟩
    · go_wp2
      go_ret
      have hke : k = l.length := by omega
      subst hke
      refine ⟨?_, HB.out⟩
      have : rndB l fr pl = true := by unfold rndB; rw [List.all_eq_true]; intro x hx; exact HALL.out x (List.mem_range.1 hx)
      rw [this]
      rfl

end Go.Proofs.YtokfiflflcfidaaDoor
