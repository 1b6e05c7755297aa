import Derived.Test.YtokfiflflcfidabRows
import Derived.Test.YtokfiflflcfidabSanM
import Derived.WalkKit
import Derived.WalkSpells
import Derived.WalkLawsBesides
import Derived.Deep.QuietTactic
import Derived.BigQuiet
import Derived.RegionTactic
import Derived.BigRegion
import Derived.Deep.RegionWith
namespace Go.Proofs.Ytokfiflflcfidab
open Go.RowKit

/-- behind a call that laid its test at the heap's end -/
structure TBox (w wr : World) (nv : ByteArray) (cv wv : Value) : Prop where
  below : Below w.heap.size w wr
  lt : w.heap.size < wr.heap.size
  t0 : wr.cell? ⟨w.heap.size, 0, none⟩ = some (.string nv)
  t1 : wr.cell? ⟨w.heap.size, 1, none⟩ = some cv
  t2 : wr.cell? ⟨w.heap.size, 2, none⟩ = some wv
theorem TBox.kept {w wr w' : World} {nv : ByteArray} {cv wv : Value} (h : TBox w wr nv cv wv) (hb : Below wr.heap.size wr w') : TBox w w' nv cv wv :=
  ⟨h.below.trans (hb.mono h.below.size), Nat.lt_of_lt_of_le h.lt hb.size, (hb.cell (p := ⟨_, 0, none⟩) h.lt).trans h.t0, (hb.cell (p := ⟨_, 1, none⟩) h.lt).trans h.t1, (hb.cell (p := ⟨_, 2, none⟩) h.lt).trans h.t2⟩
theorem TBox.alloc {w wr : World} {nv : ByteArray} {cv wv : Value} (h : TBox w wr nv cv wv) (o : Obj) : TBox w (wr.alloc o) nv cv wv := h.kept ((Below.refl _ _).alloc (Nat.le_refl _) o)
theorem TBox.init (w : World) (nv : ByteArray) (ca wa : Option Addr) (cn cc wn wc T : Nat) : TBox w (w.alloc (.cells #[.string nv, .slice ca cn cc, .slice wa wn wc] T)) nv (.slice ca cn cc) (.slice wa wn wc) :=
  ⟨(Below.refl _ _).alloc (Nat.le_refl _) _, by simp, by simp, by simp, by simp⟩

def Mch (code : List (List RIns)) (c v k i : Nat) : Prop := (insOf code k i).op = 1 ∧ (insOf code k i).cell = c ∧ (insOf code k i).val = v

set_option maxRecDepth 100000 in
set_option maxHeartbeats 1600000 in
theorem stored_any (code : List (List RIns)) (c v : Nat) (nv : ByteArray) (cv : Value) (wa : Option Addr) (wn wc : Nat) (w : World) (hC : CodesRd w cv code) (hS : SndC code) (b : Bool) (hst : b = true ↔ Strd code c v) :
    Calls Try.prog 11 #[.agg #[.string nv, cv, .slice wa wn wc], .int .i64 c, .int .i64 v] w fun r w' => r = .returned (.bool b) ∧ Below w.heap.size w w' := by
  obtain ⟨_, cb, co, cc, rfl, hcb, hrow⟩ := hC
  have HROW : Hid _ := hrow
  have hl16 := hS.2.1
  have HS : Hid _ := hS.2.2
  have HST : Hid _ := hst
  obtain ⟨cn, hcn⟩ : ∃ n, code.length = n := ⟨_, rfl⟩
  have HN : Hid _ := hcn
  rw [hcn] at HROW HS hl16 ⊢
  have HI0 : Hid _ := TBox.init w nv (some ⟨cb, co, none⟩) wa cn cc wn wc 25
  clear hrow hS hst hcn
  go_enter Try.func11, Try.ntmps11
  go_wp2
  go_loopw [7] (fun i wr => ∃ k : Nat, k ≤ cn ∧ i = .int .i64 k ∧ (∀ k', k' < k → ∀ i, i < (code[k']?.getD []).length → ¬ Mch code c v k' i) ∧ TBox w wr nv (.slice (some ⟨cb, co, none⟩) cn cc) (.slice wa wn wc)) (fun i _ => cn - (intOf i).toNat)
  case atStart => exact ⟨0, Nat.zero_le _, rfl, fun k' h => absurd h (by omega), HI0.out⟩
  case round =>
    obtain ⟨k, hk, rfl, hno, hI⟩ := hrel
    have HNO : Hid _ := hno
    have HI : Hid _ := hI
    have t1 := hI.t1
    have hlt0 := hI.lt
    clear hno hI
    by_cases hlt : k < cn
    · obtain ⟨vk, hvk, hCk⟩ := HROW.out k hlt
      obtain ⟨_, rb, ro, rc, rfl, hrb, hins⟩ := hCk
      have HINS : Hid _ := hins
      have ck := (HI.out.below.cell (p := ⟨cb, co + k, none⟩) hcb).trans hvk
      have hrl32 := (HS.out k hlt).2.1
      obtain ⟨rn, hrn⟩ : ∃ n, (code[k]?.getD []).length = n := ⟨_, rfl⟩
      have HRN : Hid _ := hrn
      rw [hrn] at HINS ck hrl32
      clear hvk hins hrn
      go_wp2
      go_loopw [8] (fun i wr2 => ∃ j : Nat, j ≤ rn ∧ i = .int .i64 j ∧ (∀ i, i < j → ¬ Mch code c v k i) ∧ TBox w wr2 nv (.slice (some ⟨cb, co, none⟩) cn cc) (.slice wa wn wc)) (fun i _ => rn - (intOf i).toNat)
      case atStart => exact ⟨0, Nat.zero_le _, rfl, fun i h => absurd h (by omega), HI.out⟩
      case round =>
        obtain ⟨j, hj, rfl, hnj, hI2⟩ := hrel
        have HNJ : Hid _ := hnj
        have HI2 : Hid _ := hI2
        have s1 := hI2.t1
        have hlt2 := hI2.lt
        have ck2 := (HI2.out.below.cell (p := ⟨cb, co + k, none⟩) hcb).trans (((HI.out.below.cell (p := ⟨cb, co + k, none⟩) hcb).symm.trans ck))
        clear hnj hI2
        by_cases hjl : j < rn
        · have hat := (HINS.out j hjl)
          have x0 := (HI2.out.below.cell (p := ⟨rb, _, none⟩) hrb).trans hat.op
          have x1 := (HI2.out.below.cell (p := ⟨rb, _, none⟩) hrb).trans hat.reg
          have x2 := (HI2.out.below.cell (p := ⟨rb, _, none⟩) hrb).trans hat.cell
          have x3 := (HI2.out.below.cell (p := ⟨rb, _, none⟩) hrb).trans hat.val
          have HM : Hid (Mch code c v k j ↔ ((code[k]?.getD [])[j]?.getD rins0).op = 1 ∧ ((code[k]?.getD [])[j]?.getD rins0).cell = c ∧ ((code[k]?.getD [])[j]?.getD rins0).val = v) := Iff.rfl
          clear hat t1 ck
          generalize (code[k]?.getD [])[j]?.getD rins0 = x at *
          have hrbw : rb < wr.heap.size := by have := HI2.out.below.size; omega
          have hcbw : cb < wr.heap.size := by have := HI2.out.below.size; omega
          have HNX : Hid (¬ Mch code c v k j → ∀ i, i < j + 1 → ¬ Mch code c v k i) := fun hn i hi => by
            by_cases hij : i = j
            · subst hij; exact hn
            · exact HNJ.out i (by omega)
          cases e1 : ((x.op : Int) == 1)
          · have HF : Hid (¬ Mch code c v k j) := fun hm => by have := (HM.out.1 hm).1; rw [beq_eq_false_iff_ne] at e1; omega
            go_wp2
            go_roundw
            case rel => exact ⟨j + 1, by omega, by go_num, HNX.out HF.out, HI2.out.alloc _⟩
            case measure => simp [intOf]; omega
          · cases e2 : ((x.cell : Int) == (c : Int))
            · have HF : Hid (¬ Mch code c v k j) := fun hm => by have := (HM.out.1 hm).2.1; rw [beq_eq_false_iff_ne] at e2; omega
              go_wp2
              go_roundw
              case rel => exact ⟨j + 1, by omega, by go_num, HNX.out HF.out, HI2.out.alloc _⟩
              case measure => simp [intOf]; omega
            · cases e3 : ((x.val : Int) == (v : Int))
              · have HF : Hid (¬ Mch code c v k j) := fun hm => by have := (HM.out.1 hm).2.2; rw [beq_eq_false_iff_ne] at e3; omega
                go_wp2
                go_roundw
                case rel => exact ⟨j + 1, by omega, by go_num, HNX.out HF.out, HI2.out.alloc _⟩
                case measure => simp [intOf]; omega
              · have HBT : Hid (b = true) := HST.out.2 (Or.inr ⟨k, j, by have := HN.out; omega, by have := HRN.out; omega, HM.out.2 ⟨by rw [beq_iff_eq] at e1; omega, by rw [beq_iff_eq] at e2; omega, by rw [beq_iff_eq] at e3; omega⟩⟩)
                go_wp2
                go_ret
                exact ⟨by rw [HBT.out]; rfl, (HI2.out.alloc _).below⟩
        · have HRE : Hid (j = rn) := by show _ = _; omega
          go_wp2
          go_roundw
          case rel => exact ⟨k + 1, by omega, by go_num, fun k' hk' i hi => by
            by_cases hkk : k' = k
            · subst hkk; exact HNJ.out i (by rw [HRN.out] at hi; rw [HRE.out]; exact hi)
            · exact HNO.out k' (by omega) i hi, HI2.out⟩
          case measure => simp [intOf]; omega
    · have HV : Hid (((v : Int) == 0) = b) := by
        show _ = _
        rw [Bool.eq_iff_iff, beq_iff_eq, HST.out]
        constructor
        · intro h; exact Or.inl (by omega)
        · rintro (h | ⟨k', i, h1, h2, h3⟩)
          · omega
          · exact absurd h3 (HNO.out k' (by have := HN.out; omega) i h2)
      go_wp2
      go_ret
      exact ⟨by rw [← HV.out]; rfl, HI.out.below⟩

def Mrd (code : List (List RIns)) (k r v i : Nat) : Prop := (insOf code k i).op = 2 ∧ (insOf code k i).reg = r ∧ Strd code (insOf code k i).cell v
theorem str_bool (code : List (List RIns)) (c v : Nat) : ∃ b : Bool, b = true ↔ Strd code c v := by
  by_cases h : Strd code c v
  · exact ⟨true, by simp [h]⟩
  · exact ⟨false, by simp [h]⟩

set_option maxRecDepth 100000 in
set_option maxHeartbeats 1600000 in
theorem sread_any (code : List (List RIns)) (k r v : Nat) (nv : ByteArray) (cv : Value) (wa : Option Addr) (wn wc : Nat) (w : World) (hC : CodesRd w cv code) (hS : SndC code) (hk : k < code.length) (hrd : Rddn code k r v) :
    Calls Try.prog 10 #[.agg #[.string nv, cv, .slice wa wn wc], .int .i64 k, .int .i64 r, .int .i64 v] w fun e w' => e = .returned (.bool true) ∧ Below w.heap.size w w' := by
  have HC : Hid (CodesRd w cv code) := hC
  obtain ⟨_, cb, co, cc, rfl, hcb, hrow⟩ := hC
  obtain ⟨vk, hvk, hCk⟩ := hrow k hk
  obtain ⟨_, rb, ro, rc, rfl, hrb, hins⟩ := hCk
  have HINS : Hid _ := hins
  have HVK : Hid _ := hvk
  have hl16 := hS.2.1
  have hrl32 := (hS.2.2 k hk).2.1
  have HS : Hid (SndC code) := hS
  have HRD : Hid _ := hrd
  have HST : Hid (∀ (c : Nat) (wx : World), CodesRd wx (.slice (some ⟨cb, co, none⟩) code.length cc) code → ∀ b : Bool, (b = true ↔ Strd code c v) → Calls Try.prog 11 #[.agg #[.string nv, .slice (some ⟨cb, co, none⟩) code.length cc, .slice wa wn wc], .int .i64 c, .int .i64 v] wx fun r w' => r = .returned (.bool b) ∧ Below wx.heap.size wx w') := fun c wx h b hb => stored_any code c v nv (.slice (some ⟨cb, co, none⟩) code.length cc) wa wn wc wx h HS.out b hb
  obtain ⟨cn, hcn⟩ : ∃ n, code.length = n := ⟨_, rfl⟩
  obtain ⟨rn, hrn⟩ : ∃ n, (code[k]?.getD []).length = n := ⟨_, rfl⟩
  have HN : Hid _ := hcn
  have HRN : Hid _ := hrn
  rw [hcn] at hl16 hk HC HST ⊢
  rw [hrn] at HINS hrl32 HVK
  have HI0 : Hid _ := TBox.init w nv (some ⟨cb, co, none⟩) wa cn cc wn wc 25
  clear hrow hS hrd hcn hrn hins hvk
  go_enter Try.func10, Try.ntmps10
  go_wp2
  go_loopw [9] (fun i wr2 => ∃ j : Nat, j ≤ rn ∧ i = .int .i64 j ∧ (∀ i, i < j → ¬ Mrd code k r v i) ∧ TBox w wr2 nv (.slice (some ⟨cb, co, none⟩) cn cc) (.slice wa wn wc)) (fun i _ => rn - (intOf i).toNat)
  case atStart => exact ⟨0, Nat.zero_le _, rfl, fun i h => absurd h (by omega), HI0.out⟩
  case round =>
    obtain ⟨j, hj, rfl, hnj, hI2⟩ := hrel
    have HNJ : Hid _ := hnj
    have HI2 : Hid _ := hI2
    have s0 := hI2.t0
    have s1 := hI2.t1
    have s2 := hI2.t2
    have hlt2 := hI2.lt
    have ck2 := (HI2.out.below.cell (p := ⟨cb, co + k, none⟩) hcb).trans HVK.out
    clear hnj hI2
    by_cases hjl : j < rn
    · have hat := (HINS.out j hjl)
      have x0 := (HI2.out.below.cell (p := ⟨rb, _, none⟩) hrb).trans hat.op
      have x1 := (HI2.out.below.cell (p := ⟨rb, _, none⟩) hrb).trans hat.reg
      have x2 := (HI2.out.below.cell (p := ⟨rb, _, none⟩) hrb).trans hat.cell
      have x3 := (HI2.out.below.cell (p := ⟨rb, _, none⟩) hrb).trans hat.val
      have HM : Hid (Mrd code k r v j ↔ ((code[k]?.getD [])[j]?.getD rins0).op = 2 ∧ ((code[k]?.getD [])[j]?.getD rins0).reg = r ∧ Strd code ((code[k]?.getD [])[j]?.getD rins0).cell v) := Iff.rfl
      clear hat
      generalize (code[k]?.getD [])[j]?.getD rins0 = x at *
      have hrbw : rb < wr.heap.size := by have := HI2.out.below.size; omega
      have hcbw : cb < wr.heap.size := by have := HI2.out.below.size; omega
      have HNX : Hid (¬ Mrd code k r v j → ∀ i, i < j + 1 → ¬ Mrd code k r v i) := fun hn i hi => by
        by_cases hij : i = j
        · subst hij; exact hn
        · exact HNJ.out i (by omega)
      cases e1 : ((x.op : Int) == 2)
      · have HF : Hid (¬ Mrd code k r v j) := fun hm => by have := (HM.out.1 hm).1; rw [beq_eq_false_iff_ne] at e1; omega
        go_wp2
        go_roundw
        case rel => exact ⟨j + 1, by omega, by go_num, HNX.out HF.out, HI2.out.alloc _⟩
        case measure => simp [intOf]; omega
      · cases e2 : ((x.reg : Int) == (r : Int))
        · have HF : Hid (¬ Mrd code k r v j) := fun hm => by have := (HM.out.1 hm).2.1; rw [beq_eq_false_iff_ne] at e2; omega
          go_wp2
          go_roundw
          case rel => exact ⟨j + 1, by omega, by go_num, HNX.out HF.out, HI2.out.alloc _⟩
          case measure => simp [intOf]; omega
        · obtain ⟨b, hb⟩ := str_bool code x.cell v
          have HB : Hid _ := hb
          clear hb
          cases b
          · have HF : Hid (¬ Mrd code k r v j) := fun hm => by have := HB.out.2 (HM.out.1 hm).2.2; cases this
            go_wp2_with fail
            refine Calls.mono (HST.out _ _ (HC.out.kept (HI2.out.alloc _).below) false (by simpa using HB.out)) ?_
            rintro e w3 ⟨rfl, hb3⟩
            have HI3 : Hid _ := (HI2.out.alloc _).kept hb3
            clear hb3
            go_wp2
            go_roundw
            case rel => exact ⟨j + 1, by omega, by go_num, HNX.out HF.out, HI3.out⟩
            case measure => simp [intOf]; omega
          · go_wp2_with fail
            refine Calls.mono (HST.out _ _ (HC.out.kept (HI2.out.alloc _).below) true (by simpa using HB.out)) ?_
            rintro e w3 ⟨rfl, hb3⟩
            have HI3 : Hid _ := (HI2.out.alloc _).kept hb3
            clear hb3
            go_wp2
            go_ret
            exact ⟨rfl, HI3.out.below⟩
    · have HV : Hid (v = 0) := by
        rcases HRD.out with h | ⟨i, h1, h2⟩
        · exact h
        · exact absurd h2 (HNJ.out i (by have := HRN.out; omega))
      have hv0 : ((v : Int) == 0) = true := by rw [HV.out]; rfl
      go_wp2
      go_ret
      exact ⟨rfl, HI2.out.below⟩

end Go.Proofs.Ytokfiflflcfidab
