import Derived.Test.YtokfiflflcfidabDoorRows
import Derived.Test.YtokfiflflcfidabDoorHapM
import Derived.Test.YtokfiflflcfidabDoorBldQ
import Derived.WalkKit
import Derived.WalkSpells
import Derived.WalkLawsBesides
import Derived.RegionTactic
import Derived.BigRegion
import Derived.Deep.RegionWith
import Derived.Deep.RegionLaw
import Derived.Deep.QuietTactic
import Derived.BigQuiet
namespace Go.Proofs.YtokfiflflcfidabDoor
open Go.RowKit

/-- the numbers of a list -/
def NumRd (w : World) (v : Value) (l : List Nat) : Prop :=
  ∃ a cap, v = .slice a l.length cap ∧ ∀ i, i < l.length → ∃ b off, a = some ⟨b, off, none⟩ ∧ b < w.heap.size ∧ w.cell? ⟨b, off + i, none⟩ = some (.int .i64 ((l[i]?.getD 0 : Nat) : Int))
theorem NumRd.kept {w w' : World} {v : Value} {l : List Nat} (h : NumRd w v l) (hb : Below w.heap.size w w') : NumRd w' v l := by
  obtain ⟨a, cap, rfl, h1⟩ := h
  refine ⟨a, cap, rfl, fun i hi => ?_⟩
  obtain ⟨b, off, e, h2, h3⟩ := h1 i hi
  exact ⟨b, off, e, Nat.lt_of_lt_of_le h2 hb.size, (hb.cell (p := ⟨b, _, none⟩) h2).trans h3⟩
theorem Own.nums {w : World} {base T : Nat} {v : Value} {l : List Nat} (h : Own w base T v l) : NumRd w v l := by
  rcases h.split with ⟨rfl, rfl⟩ | ⟨g, cap, rfl, _, hG⟩
  · exact ⟨none, 0, rfl, fun i hi => by simp at hi⟩
  · exact ⟨_, cap, rfl, fun i hi => ⟨g, 0, rfl, hG.1, hG.2 i hi⟩⟩

theorem contains_at {l : List Nat} {n x : Nat} (hn : n < l.length) (h : l[n]?.getD 0 = x) : isIn l x = true := by
  rw [isIn_iff, ← h, List.getElem?_eq_getElem hn]
  exact List.getElem_mem _
theorem contains_no {l : List Nat} {x : Nat} (h : ∀ m, m < l.length → l[m]?.getD 0 ≠ x) : isIn l x = false := by
  rw [Bool.eq_false_iff]
  intro hc
  obtain ⟨n, hn, e⟩ := List.getElem_of_mem (isIn_iff.1 hc)
  exact h n hn (by rw [List.getElem?_eq_getElem hn]; exact e)

set_option maxRecDepth 100000 in
set_option maxHeartbeats 400000 in
theorem isAmong_any (l : List Nat) (x : Nat) (v : Value) (w : World) (h : NumRd w v l) (hl : l.length ≤ 1000) :
    Calls Tryd.prog 81 #[v, .int .i64 x] w fun r w' => r = .returned (.bool (isIn l x)) ∧ w' = w := by
  obtain ⟨a, cap, rfl, hR⟩ := h
  have HR : Hid _ := hR
  clear hR
  go_enter Tryd.func81, Tryd.ntmps81
  go_wp2
  go_loop [9] (fun i => ∃ n : Nat, n ≤ l.length ∧ i = .int .i64 n ∧ ∀ m, m < n → l[m]?.getD 0 ≠ x) (fun i => l.length - (intOf i).toNat)
  case atStart => exact ⟨0, Nat.zero_le _, rfl, fun m hm => by omega⟩
  case round =>
    obtain ⟨n, hn, rfl, hno⟩ := hrel
    by_cases hlt : n < l.length
    · obtain ⟨b, off, rfl, hb, hc⟩ := HR.out n hlt
      have HN : Hid _ := hno
      clear hno
      by_cases he : l[n]?.getD 0 = x
      · have HE : Hid _ := contains_at hlt he
        rw [he] at hc
        clear he
        go_wp2
        go_ret
        exact ⟨by rw [HE.out]; rfl, rfl⟩
      · have HE : Hid (∀ m, m < n + 1 → l[m]?.getD 0 ≠ x) := fun m hm => by
          by_cases hmn : m = n
          · subst hmn; exact he
          · exact HN.out m (by omega)
        have hne : (((l[n]?.getD 0 : Nat) : Int) == (x : Int)) = false := by rw [beq_eq_false_iff_ne]; omega
        generalize l[n]?.getD 0 = y at *
        clear he
        go_wp2
        go_round
        case rel => exact ⟨n + 1, by omega, by go_num, HE.out⟩
        case measure => simp [intOf]; omega
    · have HE : Hid _ := contains_no (l := l) (x := x) (fun m hm => hno m (by omega))
      have : n = l.length := by omega
      subst this
      clear hno
      go_wp2
      go_ret
      exact ⟨by rw [HE.out]; rfl, rfl⟩

def ownI (L : List Nat) (r n : Nat) : Int := match ownTo L r n with | none => -1 | some w => (w : Int)
theorem ownI_zero (L : List Nat) (r : Nat) : ownI L r 0 = -1 := rfl
theorem ownI_out (L : List Nat) (r n : Nat) (h : thrOf L n ≠ thrOf L r) : ownI L r (n + 1) = -1 := by unfold ownI; rw [ownTo, if_neg h]
theorem ownI_hit (L : List Nat) (r n : Nat) (h : thrOf L n = thrOf L r) (hc : cellOf L n = cellOf L r) (hk : bW (L[n]?.getD 0) = true) : ownI L r (n + 1) = (n : Int) := by unfold ownI; rw [ownTo, if_pos h, if_pos (show cellOf L n = cellOf L r ∧ kd L n = true from ⟨hc, hk⟩)]
theorem ownI_on (L : List Nat) (r n : Nat) (h : thrOf L n = thrOf L r) (hc : ¬ (cellOf L n = cellOf L r ∧ bW (L[n]?.getD 0) = true)) : ownI L r (n + 1) = ownI L r n := by unfold ownI; rw [ownTo, if_pos h, if_neg (show ¬ (cellOf L n = cellOf L r ∧ kd L n = true) from hc)]
theorem ownI_eq (L : List Nat) (r f : Nat) : ((f : Int) == ownI L r r) = decide (ownW L r = some f) := by
  unfold ownI ownW
  cases ownTo L r r with
  | none => rw [Bool.eq_iff_iff]; simp
  | some w =>
    rw [Bool.eq_iff_iff, beq_iff_eq, decide_eq_true_iff]
    dsimp only
    constructor
    · intro h; exact congrArg some (by omega)
    · intro h; have := Option.some.inj h; omega

set_option maxRecDepth 100000 in
set_option maxHeartbeats 1600000 in
theorem ownWrite_any (L : List Nat) (g cap r : Nat) (w : World) (hP : PRd w g L) (hE : ∀ x ∈ L, x < 14) (hr : r < L.length) (hl2 : L.length ≤ 64) :
    Calls Tryd.prog 105 #[.slice (some ⟨g, 0, none⟩) L.length cap, .int .i64 r] w fun v w' => v = .returned (.int .i64 (ownI L r r)) ∧ Below w.heap.size w w' := by
  have HR : Hid _ := hr
  have hr0 : ¬ ((r : Int) < 0) := by omega
  have hr1 : ¬ ((L.length : Int) ≤ (r : Int)) := by omega
  go_enter Tryd.func105, Tryd.ntmps105
  go_wp2
  go_loopw [5] (fun i wr => ∃ n : Nat, n ≤ r ∧ i = .int .i64 ((n : Int) - 1) ∧ ownI L r n = ownI L r r ∧ Below w.heap.size w wr) (fun i _ => ((intOf i) + 1).toNat)
  case atStart => exact ⟨r, Nat.le_refl _, rfl, rfl, Below.refl _ _⟩
  case round =>
    obtain ⟨m, hm, rfl, hS, hb⟩ := hrel
    have HS : Hid _ := hS
    clear hS
    by_cases hlt : 0 < m
    · obtain ⟨n, rfl⟩ : ∃ n, m = n + 1 := ⟨m - 1, by omega⟩
      have hPr := hP.kept hb
      have hnl : n < L.length := by omega
      have q0 := hPr.into n hnl
      have q1 := hPr.out n hnl
      have q2 := hPr.thr n hnl
      have q3 := hPr.cel n hnl
      have q4 := hPr.reg n hnl
      have z2 := hPr.thr r hr
      have z3 := hPr.cel r hr
      have he := getD_lt hE n
      have hgl := hPr.lt
      have hbs := hb.size
      have HB : Hid _ := hb
      have e1 : (((n + 1 : Nat) : Int) - 1) = (n : Int) := by omega
      rw [e1]
      have HO := ownI_out L r n
      have HH := ownI_hit L r n
      have HN := ownI_on L r n
      have HOH : Hid _ := HO
      have HHH : Hid _ := HH
      have HNH : Hid _ := HN
      have hbn : ¬ (g = wr.heap.size) := by omega
      clear hPr hb HO HH HN
      generalize L[prv L n]?.getD 0 = a at *
      generalize L[n]?.getD 0 = e at *
      generalize thrOf L n = t at *
      generalize cellOf L n = c at *
      generalize (if kd L n then 0 else regOf L n) = rg at *
      generalize thrOf L r = tr at *
      generalize cellOf L r = cr at *
      by_cases ht : t = tr
      · have htI : ((t : Int) == (tr : Int)) = true := by rw [beq_iff_eq]; omega
        by_cases hc : c = cr
        · have hcI : ((c : Int) == (cr : Int)) = true := by rw [beq_iff_eq]; omega
          have hd : decide ((c : Int) = (cr : Int)) = true := decide_eq_true (by omega)
          subst ht
          subst hc
          have hww : ∀ wq : World, Below wr.heap.size (wr.alloc (.cells #[.int .i64 a, .int .i64 e, .int .i64 t, .int .i64 c, .int .i64 rg] 110)) wq → Below w.heap.size w wq := fun wq hq => (HB.out.alloc hbs _).trans (hq.mono hbs)
          have HWW : Hid _ := hww
          clear hww
          cases hw : bW e
          · have HS2 : Hid (ownI L r n = ownI L r r) := by show _ = _; rw [← HS.out, HNH.out rfl (fun e => by have := e.2; rw [hw] at this; cases this)]
            go_wp2
            go_quiet (fail)
            go_wp2
            go_region_with (go_at_call 53; refine (isWrite_any a e t c rg he _).mono ?_; rintro r w1 ⟨rfl, hb1⟩; rw [hw]; have HB1 : Hid _ := hb1; clear hb1)
            all_goals go_wp2
            all_goals go_roundw
            all_goals first | exact ⟨n, by omega, by go_num, HS2.out, HWW.out _ ((below_drewN (Below.refl _ _) _).trans (HB1.out.mono (show wr.heap.size ≤ (wr.alloc _).heap.size by simp)))⟩ | simp [intOf]
          · have HS2 : Hid (ownI L r r = (n : Int)) := by show _ = _; rw [← HS.out, HHH.out rfl rfl hw]
            go_wp2
            go_quiet (fail)
            go_wp2
            go_region_with (go_at_call 53; refine (isWrite_any a e t c rg he _).mono ?_; rintro r w1 ⟨rfl, hb1⟩; rw [hw]; have HB1 : Hid _ := hb1; clear hb1)
            all_goals go_wp2
            all_goals go_ret
            all_goals exact ⟨by rw [HS2.out]; rfl, HWW.out _ ((below_drewN (Below.refl _ _) _).trans (HB1.out.mono (show wr.heap.size ≤ (wr.alloc _).heap.size by simp)))⟩
        · have hcI : ((c : Int) == (cr : Int)) = false := by rw [beq_eq_false_iff_ne]; omega
          have HS2 : Hid (ownI L r n = ownI L r r) := by show _ = _; rw [← HS.out, HNH.out ht (fun e => hc e.1)]
          subst ht
          clear hc
          go_wp2
          go_quiet (fail)
          go_wp2
          go_quiet (fail)
          go_wp2
          go_roundw
          case rel => exact ⟨n, by omega, by go_num, HS2.out, below_drewN (HB.out.alloc hbs _) _⟩
          case measure => simp [intOf]
      · have htI : ((t : Int) == (tr : Int)) = false := by rw [beq_eq_false_iff_ne]; omega
        have HS2 : Hid (ownI L r r = -1) := by show _ = _; rw [← HS.out, HOH.out ht]
        clear ht
        go_wp2
        go_quiet (fail)
        go_wp2
        go_ret
        exact ⟨by rw [HS2.out]; rfl, below_drewN (HB.out.alloc hbs _) _⟩
    · have : m = 0 := by omega
      subst this
      have HS2 : Hid (ownI L r r = -1) := by show _ = _; rw [← HS.out, ownI_zero]
      go_wp2
      go_ret
      exact ⟨by rw [HS2.out]; rfl, hb⟩

end Go.Proofs.YtokfiflflcfidabDoor
