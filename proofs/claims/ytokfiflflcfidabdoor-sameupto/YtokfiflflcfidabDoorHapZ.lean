import Derived.Test.YtokfiflflcfidabDoorRows
import Derived.Test.YtokfiflflcfidabDoorFrmM
import Derived.Test.YtokfiflflcfidabDoorBldQ
import Derived.WalkKit
import Derived.WalkSpells
import Derived.WalkLawsBesides
import Derived.RegionTactic
import Derived.BigRegion
import Derived.Deep.RegionWith
import Derived.Deep.RegionLaw
import Derived.Deep.QuietTactic
import Derived.BigQuiet
import Derived.Test.YtokfiflflcfidabDoorBldR
namespace Go.Proofs.YtokfiflflcfidabDoor
open Go.RowKit

/-- the numbers of a list -/
def NumRd (w : World) (v : Value) (l : List Nat) : Prop :=
  ∃ a cap, v = .slice a l.length cap ∧ ∀ i, i < l.length → ∃ b off, a = some ⟨b, off, none⟩ ∧ b < w.heap.size ∧ w.cell? ⟨b, off + i, none⟩ = some (.int .i64 ((l[i]?.getD 0 : Nat) : Int))
theorem NumRd.kept {w w' : World} {v : Value} {l : List Nat} (h : NumRd w v l) (hb : Below w.heap.size w w') : NumRd w' v l := by
  obtain ⟨a, cap, rfl, h1⟩ := h
  refine ⟨a, cap, rfl, fun i hi => ?_⟩
  obtain ⟨b, off, e, h2, h3⟩ := h1 i hi
  exact ⟨b, off, e, Nat.lt_of_lt_of_le h2 hb.size, (hb.cell (p := ⟨b, _, none⟩) h2).trans h3⟩
theorem Own.nums {w : World} {base T : Nat} {v : Value} {l : List Nat} (h : Own w base T v l) : NumRd w v l := by
  rcases h.split with ⟨rfl, rfl⟩ | ⟨g, cap, rfl, _, hG⟩
  · exact ⟨none, 0, rfl, fun i hi => by simp at hi⟩
  · exact ⟨_, cap, rfl, fun i hi => ⟨g, 0, rfl, hG.1, hG.2 i hi⟩⟩

theorem contains_at {l : List Nat} {n x : Nat} (hn : n < l.length) (h : l[n]?.getD 0 = x) : isIn l x = true := by
  rw [isIn_iff, ← h, List.getElem?_eq_getElem hn]
  exact List.getElem_mem _
theorem contains_no {l : List Nat} {x : Nat} (h : ∀ m, m < l.length → l[m]?.getD 0 ≠ x) : isIn l x = false := by
  rw [Bool.eq_false_iff]
  intro hc
  obtain ⟨n, hn, e⟩ := List.getElem_of_mem (isIn_iff.1 hc)
  exact h n hn (by rw [List.getElem?_eq_getElem hn]; exact e)

set_option maxRecDepth 100000 in
set_option maxHeartbeats 400000 in
theorem isAmong_any (l : List Nat) (x : Nat) (v : Value) (w : World) (h : NumRd w v l) (hl : l.length ≤ 1000) :
    Calls Tryd.prog 81 #[v, .int .i64 x] w fun r w' => r = .returned (.bool (isIn l x)) ∧ w' = w := by
  obtain ⟨a, cap, rfl, hR⟩ := h
  have HR : Hid _ := hR
  clear hR
  go_enter Tryd.func81, Tryd.ntmps81
  go_wp2
  go_loop [9] (fun i => ∃ n : Nat, n ≤ l.length ∧ i = .int .i64 n ∧ ∀ m, m < n → l[m]?.getD 0 ≠ x) (fun i => l.length - (intOf i).toNat)
  case atStart => exact ⟨0, Nat.zero_le _, rfl, fun m hm => by omega⟩
  case round =>
    obtain ⟨n, hn, rfl, hno⟩ := hrel
    by_cases hlt : n < l.length
    · obtain ⟨b, off, rfl, hb, hc⟩ := HR.out n hlt
      have HN : Hid _ := hno
      clear hno
      by_cases he : l[n]?.getD 0 = x
      · have HE : Hid _ := contains_at hlt he
        rw [he] at hc
        clear he
        go_wp2
        go_ret
        exact ⟨by rw [HE.out]; rfl, rfl⟩
      · have HE : Hid (∀ m, m < n + 1 → l[m]?.getD 0 ≠ x) := fun m hm => by
          by_cases hmn : m = n
          · subst hmn; exact he
          · exact HN.out m (by omega)
        have hne : (((l[n]?.getD 0 : Nat) : Int) == (x : Int)) = false := by rw [beq_eq_false_iff_ne]; omega
        generalize l[n]?.getD 0 = y at *
        clear he
        go_wp2
        go_round
        case rel => exact ⟨n + 1, by omega, by go_num, HE.out⟩
        case measure => simp [intOf]; omega
    · have HE : Hid _ := contains_no (l := l) (x := x) (fun m hm => hno m (by omega))
      have : n = l.length := by omega
      subst this
      clear hno
      go_wp2
      go_ret
      exact ⟨by rw [HE.out]; rfl, rfl⟩

def ownI (L : List Nat) (r n : Nat) : Int := match ownTo L r n with | none => -1 | some w => (w : Int)
theorem ownI_zero (L : List Nat) (r : Nat) : ownI L r 0 = -1 := rfl
theorem ownI_out (L : List Nat) (r n : Nat) (h : thrOf L n ≠ thrOf L r) : ownI L r (n + 1) = -1 := by unfold ownI; rw [ownTo, if_neg h]
theorem ownI_hit (L : List Nat) (r n : Nat) (h : thrOf L n = thrOf L r) (hc : cellOf L n = cellOf L r) (hk : bW (L[n]?.getD 0) = true) : ownI L r (n + 1) = (n : Int) := by unfold ownI; rw [ownTo, if_pos h, if_pos (show cellOf L n = cellOf L r ∧ kd L n = true from ⟨hc, hk⟩)]
theorem ownI_on (L : List Nat) (r n : Nat) (h : thrOf L n = thrOf L r) (hc : ¬ (cellOf L n = cellOf L r ∧ bW (L[n]?.getD 0) = true)) : ownI L r (n + 1) = ownI L r n := by unfold ownI; rw [ownTo, if_pos h, if_neg (show ¬ (cellOf L n = cellOf L r ∧ kd L n = true) from hc)]
theorem ownI_eq (L : List Nat) (r f : Nat) : ((f : Int) == ownI L r r) = decide (ownW L r = some f) := by
  unfold ownI ownW
  cases ownTo L r r with
  | none => rw [Bool.eq_iff_iff]; simp
  | some w =>
    rw [Bool.eq_iff_iff, beq_iff_eq, decide_eq_true_iff]
    dsimp only
    constructor
    · intro h; exact congrArg some (by omega)
    · intro h; have := Option.some.inj h; omega

set_option maxRecDepth 100000 in
set_option maxHeartbeats 1600000 in
theorem ownWrite_any (L : List Nat) (g cap r : Nat) (w : World) (hP : PRd w g L) (hE : ∀ x ∈ L, x < 14) (hr : r < L.length) (hl2 : L.length ≤ 64) :
    Calls Tryd.prog 105 #[.slice (some ⟨g, 0, none⟩) L.length cap, .int .i64 r] w fun v w' => v = .returned (.int .i64 (ownI L r r)) ∧ Below w.heap.size w w' := by
  have HR : Hid _ := hr
  have hr0 : ¬ ((r : Int) < 0) := by omega
  have hr1 : ¬ ((L.length : Int) ≤ (r : Int)) := by omega
  go_enter Tryd.func105, Tryd.ntmps105
  go_wp2
  go_loopw [5] (fun i wr => ∃ n : Nat, n ≤ r ∧ i = .int .i64 ((n : Int) - 1) ∧ ownI L r n = ownI L r r ∧ Below w.heap.size w wr) (fun i _ => ((intOf i) + 1).toNat)
  case atStart => exact ⟨r, Nat.le_refl _, rfl, rfl, Below.refl _ _⟩
  case round =>
    obtain ⟨m, hm, rfl, hS, hb⟩ := hrel
    have HS : Hid _ := hS
    clear hS
    by_cases hlt : 0 < m
    · obtain ⟨n, rfl⟩ : ∃ n, m = n + 1 := ⟨m - 1, by omega⟩
      have hPr := hP.kept hb
      have hnl : n < L.length := by omega
      have q0 := hPr.into n hnl
      have q1 := hPr.out n hnl
      have q2 := hPr.thr n hnl
      have q3 := hPr.cel n hnl
      have q4 := hPr.reg n hnl
      have z2 := hPr.thr r hr
      have z3 := hPr.cel r hr
      have he := getD_lt hE n
      have hgl := hPr.lt
      have hbs := hb.size
      have HB : Hid _ := hb
      have e1 : (((n + 1 : Nat) : Int) - 1) = (n : Int) := by omega
      rw [e1]
      have HO := ownI_out L r n
      have HH := ownI_hit L r n
      have HN := ownI_on L r n
      have HOH : Hid _ := HO
      have HHH : Hid _ := HH
      have HNH : Hid _ := HN
      have hbn : ¬ (g = wr.heap.size) := by omega
      clear hPr hb HO HH HN
      generalize L[prv L n]?.getD 0 = a at *
      generalize L[n]?.getD 0 = e at *
      generalize thrOf L n = t at *
      generalize cellOf L n = c at *
      generalize (if kd L n then 0 else regOf L n) = rg at *
      generalize thrOf L r = tr at *
      generalize cellOf L r = cr at *
      by_cases ht : t = tr
      · have htI : ((t : Int) == (tr : Int)) = true := by rw [beq_iff_eq]; omega
        by_cases hc : c = cr
        · have hcI : ((c : Int) == (cr : Int)) = true := by rw [beq_iff_eq]; omega
          have hd : decide ((c : Int) = (cr : Int)) = true := decide_eq_true (by omega)
          subst ht
          subst hc
          have hww : ∀ wq : World, Below wr.heap.size (wr.alloc (.cells #[.int .i64 a, .int .i64 e, .int .i64 t, .int .i64 c, .int .i64 rg] 110)) wq → Below w.heap.size w wq := fun wq hq => (HB.out.alloc hbs _).trans (hq.mono hbs)
          have HWW : Hid _ := hww
          clear hww
          cases hw : bW e
          · have HS2 : Hid (ownI L r n = ownI L r r) := by show _ = _; rw [← HS.out, HNH.out rfl (fun e => by have := e.2; rw [hw] at this; cases this)]
            go_wp2
            go_quiet (fail)
            go_wp2
            go_region_with (go_at_call 53; refine (isWrite_any a e t c rg he _).mono ?_; rintro r w1 ⟨rfl, hb1⟩; rw [hw]; have HB1 : Hid _ := hb1; clear hb1)
            all_goals go_wp2
            all_goals go_roundw
            all_goals first | exact ⟨n, by omega, by go_num, HS2.out, HWW.out _ ((below_drewN (Below.refl _ _) _).trans (HB1.out.mono (show wr.heap.size ≤ (wr.alloc _).heap.size by simp)))⟩ | simp [intOf]
          · have HS2 : Hid (ownI L r r = (n : Int)) := by show _ = _; rw [← HS.out, HHH.out rfl rfl hw]
            go_wp2
            go_quiet (fail)
            go_wp2
            go_region_with (go_at_call 53; refine (isWrite_any a e t c rg he _).mono ?_; rintro r w1 ⟨rfl, hb1⟩; rw [hw]; have HB1 : Hid _ := hb1; clear hb1)
            all_goals go_wp2
            all_goals go_ret
            all_goals exact ⟨by rw [HS2.out]; rfl, HWW.out _ ((below_drewN (Below.refl _ _) _).trans (HB1.out.mono (show wr.heap.size ≤ (wr.alloc _).heap.size by simp)))⟩
        · have hcI : ((c : Int) == (cr : Int)) = false := by rw [beq_eq_false_iff_ne]; omega
          have HS2 : Hid (ownI L r n = ownI L r r) := by show _ = _; rw [← HS.out, HNH.out ht (fun e => hc e.1)]
          subst ht
          clear hc
          go_wp2
          go_quiet (fail)
          go_wp2
          go_quiet (fail)
          go_wp2
          go_roundw
          case rel => exact ⟨n, by omega, by go_num, HS2.out, below_drewN (HB.out.alloc hbs _) _⟩
          case measure => simp [intOf]
      · have htI : ((t : Int) == (tr : Int)) = false := by rw [beq_eq_false_iff_ne]; omega
        have HS2 : Hid (ownI L r r = -1) := by show _ = _; rw [← HS.out, HOH.out ht]
        clear ht
        go_wp2
        go_quiet (fail)
        go_wp2
        go_ret
        exact ⟨by rw [HS2.out]; rfl, below_drewN (HB.out.alloc hbs _) _⟩
    · have : m = 0 := by omega
      subst this
      have HS2 : Hid (ownI L r r = -1) := by show _ = _; rw [← HS.out, ownI_zero]
      go_wp2
      go_ret
      exact ⟨by rw [HS2.out]; rfl, hb⟩

end Go.Proofs.YtokfiflflcfidabDoor

namespace Go.Proofs.YtokfiflflcfidabDoor
open Go.RowKit

theorem byCode_no {L : List Nat} {f s : Nat} (h : ¬ (f < s ∧ thrOf L f = thrOf L s ∧ (kd L f = false ∨ kd L s = true ∨ ∃ k, f < k ∧ k ≤ s ∧ fE (L[prv L k]?.getD 0) = true))) : byCode L f s = false := by
  rw [Bool.eq_false_iff]
  exact fun e => h ((byCode_iff L f s).1 e)

set_option maxRecDepth 100000 in
set_option maxHeartbeats 1600000 in
theorem firstByCode_any (L : List Nat) (g cap f s : Nat) (w : World) (hP : PRd w g L) (hE : ∀ x ∈ L, x < 14) (hf : f < L.length) (hs : s < L.length) (hl2 : L.length ≤ 64) :
    Calls Tryd.prog 101 #[.slice (some ⟨g, 0, none⟩) L.length cap, .int .i64 f, .int .i64 s] w fun v w' => v = .returned (.bool (byCode L f s)) ∧ Below w.heap.size w w' := by
  have hf0 : ¬ ((f : Int) < 0) := by omega
  have hs1 : ¬ ((L.length : Int) ≤ (s : Int)) := by omega
  go_enter Tryd.func101, Tryd.ntmps101
  by_cases hlt : f < s
  · have hge : ¬ ((s : Int) ≤ (f : Int)) := by omega
    have q0 := hP.into f hf
    have q1 := hP.out f hf
    have q2 := hP.thr f hf
    have q3 := hP.cel f hf
    have q4 := hP.reg f hf
    have z2 := hP.thr s hs
    have HKF : Hid (kd L f = bW (L[f]?.getD 0)) := rfl
    have HKS : Hid (kd L s = bW (L[s]?.getD 0)) := rfl
    have he := getD_lt hE f
    have hes := getD_lt hE s
    have hTT : Hid (thrOf L f = thrOf L s ∨ ¬ thrOf L f = thrOf L s) := Classical.em _
    have HN := @byCode_no L f s
    have HY := (byCode_iff L f s).2
    have HNH : Hid _ := HN
    have HYH : Hid _ := HY
    clear HN HY
    generalize L[prv L f]?.getD 0 = a at *
    generalize L[f]?.getD 0 = e at *
    generalize htf : thrOf L f = t at *
    generalize cellOf L f = c at *
    generalize (if kd L f then 0 else regOf L f) = rg at *
    generalize hts : thrOf L s = ts at *
    have HTF : Hid _ := htf
    have HTS : Hid _ := hts
    clear htf hts
    rcases hTT.out with ht | ht
    · have htI : ((t : Int) == (ts : Int)) = true := by rw [beq_iff_eq]; omega
      have HT : Hid _ := ht
      subst ht
      go_wp2
      go_quiet (fail)
      go_wp2_with fail
      refine (isWrite_any a e t c rg he _).mono ?_
      rintro r w1 ⟨rfl, hb1⟩
      have hb01 : Below w.heap.size w w1 := (below_drewN (Below.refl _ _) _).trans hb1
      have HB1 : Hid _ := hb01
      have hP1 := hP.kept hb01
      have y0 := hP1.into s hs
      have y1 := hP1.out s hs
      have y2 := hP1.thr s hs
      have y3 := hP1.cel s hs
      have y4 := hP1.reg s hs
      clear q0 q1 q2 q3 q4 z2 hb1 hb01
      cases hkf : bW e
      · have HR : Hid (byCode L f s = true) := HYH.out ⟨hlt, trivial, Or.inl (HKF.out.trans hkf)⟩
        clear y0 y1 y2 y3 y4
        go_wp2
        go_ret
        exact ⟨by rw [HR.out]; rfl, HB1.out⟩
      · generalize L[prv L s]?.getD 0 = a2 at *
        generalize L[s]?.getD 0 = e2 at *
        generalize thrOf L s = t2 at *
        generalize cellOf L s = c2 at *
        generalize (if kd L s then 0 else regOf L s) = rg2 at *
        go_wp2_with fail
        refine (isWrite_any a2 e2 t2 c2 rg2 hes _).mono ?_
        rintro r w2 ⟨rfl, hb2⟩
        have hb02 : Below w.heap.size w w2 := HB1.out.trans (hb2.mono HB1.out.size)
        have HB2 : Hid _ := hb02
        clear y0 y1 y2 y3 y4 hb2 hb02 hP1
        cases hks : bW e2
        · go_wp2
          go_loopw [7] (fun i wr => ∃ n : Nat, f + 1 ≤ n ∧ n ≤ s + 1 ∧ i = .int .i64 n ∧ (∀ k, f < k → k < n → fE (L[prv L k]?.getD 0) = false) ∧ Below w.heap.size w wr) (fun i _ => s + 1 - (intOf i).toNat)
          case atStart => exact ⟨f + 1, by omega, by omega, by go_num, fun k h1 h2 => by omega, HB2.out⟩
          case round =>
            obtain ⟨n, hn1, hn2, rfl, hno, hb⟩ := hrel
            have HNO : Hid _ := hno
            clear hno HB1 HB2
            by_cases hle : n ≤ s
            · have hle2 : (n : Int) ≤ (s : Int) := by omega
              have hPr := hP.kept hb
              have x0 := hPr.into n (by omega)
              have ha := getD_lt hE (prv L n)
              have HB : Hid _ := hb
              clear hb hPr
              have HFN : Hid (fE (L[prv L n]?.getD 0) = true → byCode L f s = true) := fun h => HYH.out ⟨hlt, trivial, Or.inr (Or.inr ⟨n, by omega, hle, h⟩)⟩
              have HNX : Hid (fE (L[prv L n]?.getD 0) = false → ∀ k, f < k → k < n + 1 → fE (L[prv L k]?.getD 0) = false) := fun h k h1 h2 => by
                by_cases hk : k = n
                · rw [hk]; exact h
                · exact HNO.out k h1 (by omega)
              generalize L[prv L n]?.getD 0 = x at *
              cases hx : fE x
              · go_wp2_with (go_at_call 84; refine (isFence_any x ha _).mono ?_; rintro r w3 ⟨rfl, rfl⟩; rw [hx])
                go_roundw
                case rel => exact ⟨n + 1, by omega, by omega, by go_num, HNX.out hx, HB.out⟩
                case measure => simp [intOf]; omega
              · have HR : Hid (byCode L f s = true) := HFN.out hx
                go_wp2_with (go_at_call 84; refine (isFence_any x ha _).mono ?_; rintro r w3 ⟨rfl, rfl⟩; rw [hx])
                go_ret
                exact ⟨by rw [HR.out]; rfl, HB.out⟩
            · have hle2 : ¬ ((n : Int) ≤ (s : Int)) := by omega
              have HR : Hid (byCode L f s = false) := HNH.out (fun h => by
                rcases h.2.2 with h1 | h1 | ⟨k, h1, h2, h3⟩
                · rw [HKF.out, hkf] at h1; cases h1
                · rw [HKS.out, hks] at h1; cases h1
                · rw [HNO.out k h1 (by omega)] at h3; cases h3)
              have HB : Hid _ := hb
              clear hb
              go_wp2
              go_ret
              exact ⟨by rw [HR.out]; rfl, HB.out⟩
        · have HR : Hid (byCode L f s = true) := HYH.out ⟨hlt, trivial, Or.inr (Or.inl (HKS.out.trans hks))⟩
          go_wp2
          go_ret
          exact ⟨by rw [HR.out]; rfl, HB2.out⟩
    · have htI : ((t : Int) == (ts : Int)) = false := by rw [beq_eq_false_iff_ne]; omega
      have HR : Hid (byCode L f s = false) := HNH.out (fun h => ht h.2.1)
      go_wp2
      go_quiet (fail)
      go_wp2
      go_ret
      exact ⟨by rw [HR.out]; rfl, below_drewN (Below.refl _ _) _⟩
  · have hge : ((s : Int) ≤ (f : Int)) := by omega
    have HR : Hid (byCode L f s = false) := byCode_no (fun h => hlt h.1)
    go_wp2
    go_ret
    exact ⟨by rw [HR.out]; rfl, Below.refl _ _⟩

end Go.Proofs.YtokfiflflcfidabDoor

namespace Go.Proofs.YtokfiflflcfidabDoor
open Go.RowKit

/-- an event, copied into a block of its own -/
structure EvBlk (w : World) (T O a e t c r : Nat) : Prop where
  blk : w.heap[O]? = some (.cells #[.int .i64 a, .int .i64 e, .int .i64 t, .int .i64 c, .int .i64 r] T (0, 0))
theorem EvBlk.new (w : World) (T a e t c r : Nat) : EvBlk (w.alloc (.cells #[.int .i64 a, .int .i64 e, .int .i64 t, .int .i64 c, .int .i64 r] T)) T w.heap.size a e t c r := ⟨heap_alloc_new w _⟩
theorem EvBlk.lt {w : World} {T O a e t c r : Nat} (h : EvBlk w T O a e t c r) : O < w.heap.size := (Array.getElem?_eq_some_iff.1 h.blk).1
theorem EvBlk.kept {w w' : World} {T O a e t c r : Nat} (h : EvBlk w T O a e t c r) (hb : Below w.heap.size w w') : EvBlk w' T O a e t c r := ⟨(hb.block _ h.lt).trans h.blk⟩
theorem EvBlk.cells {w : World} {T O a e t c r : Nat} (h : EvBlk w T O a e t c r) :
    w.cell? ⟨O, 0, none⟩ = some (.int .i64 a) ∧ w.cell? ⟨O, 1, none⟩ = some (.int .i64 e) ∧ w.cell? ⟨O, 2, none⟩ = some (.int .i64 t) ∧ w.cell? ⟨O, 3, none⟩ = some (.int .i64 c) ∧ w.cell? ⟨O, 4, none⟩ = some (.int .i64 r) := by
  refine ⟨?_, ?_, ?_, ?_, ?_⟩ <;> rw [cell_of_row _ _ _ _ _ _ h.blk] <;> rfl

/-- firstByValue's answer, of what it reads -/
def bvB (same ks kf cf cs own : Bool) (a b : Nat) : Bool :=
  same && (if ks then decide (a < b) && (kf || cf) else if !kf || !cs then false else if own then !(a == b) else a == b)
theorem byVal_eq (L : List Nat) (f s : Nat) : byVal L f s = bvB (cellOf L f == cellOf L s) (bW (L[s]?.getD 0)) (bW (L[f]?.getD 0)) (clm L f) (clm L s) (decide (ownW L s = some f)) (vB L L.length f) (vB L L.length s) := by
  unfold byVal bvB kd
  by_cases h : ownW L s = some f
  · simp only [h, decide_true, if_true]
  · simp only [h, decide_false]
    simp

set_option maxRecDepth 100000 in
set_option maxHeartbeats 3200000 in
theorem firstByValue_any (L : List Nat) (g cap f s : Nat) (w : World) (hP : PRd w g L) (hE : ∀ x ∈ L, x < 14) (hf : f < L.length) (hs : s < L.length) (hl2 : L.length ≤ 64) :
    Calls Tryd.prog 102 #[.slice (some ⟨g, 0, none⟩) L.length cap, .int .i64 f, .int .i64 s] w fun v w' => v = .returned (.bool (byVal L f s)) ∧ Below w.heap.size w w' := by
  have hf0 : ¬ ((f : Int) < 0) := by omega
  have hf1 : ¬ ((L.length : Int) ≤ (f : Int)) := by omega
  have hs0 : ¬ ((s : Int) < 0) := by omega
  have hs1 : ¬ ((L.length : Int) ≤ (s : Int)) := by omega
  rw [byVal_eq]
  have q0 := hP.into f hf
  have q1 := hP.out f hf
  have q2 := hP.thr f hf
  have q3 := hP.cel f hf
  have q4 := hP.reg f hf
  have z0 := hP.into s hs
  have z1 := hP.out s hs
  have z2 := hP.thr s hs
  have z3 := hP.cel s hs
  have z4 := hP.reg s hs
  have ha := getD_lt hE (prv L f)
  have he := getD_lt hE f
  have ha2 := getD_lt hE (prv L s)
  have he2 := getD_lt hE s
  have HCF : Hid (clm L f = (!bW (L[f]?.getD 0) && (isRf (L[prv L f]?.getD 0) || isFr (L[f]?.getD 0)))) := rfl
  have HCS : Hid (clm L s = (!bW (L[s]?.getD 0) && (isRf (L[prv L s]?.getD 0) || isFr (L[s]?.getD 0)))) := rfl
  have hvf : ∀ wq, PRd wq g L → Calls Tryd.prog 85 #[.slice (some ⟨g, 0, none⟩) L.length cap, .int .i64 f] wq fun r w' => r = .returned (.int .i64 (vB L L.length f : Nat)) ∧ Below wq.heap.size wq w' := fun wq h => valueAt_any L g cap f wq h hE hf hl2
  have hvs : ∀ wq, PRd wq g L → Calls Tryd.prog 85 #[.slice (some ⟨g, 0, none⟩) L.length cap, .int .i64 s] wq fun r w' => r = .returned (.int .i64 (vB L L.length s : Nat)) ∧ Below wq.heap.size wq w' := fun wq h => valueAt_any L g cap s wq h hE hs hl2
  have how : ∀ wq, PRd wq g L → Calls Tryd.prog 105 #[.slice (some ⟨g, 0, none⟩) L.length cap, .int .i64 s] wq fun r w' => r = .returned (.int .i64 (ownI L s s)) ∧ Below wq.heap.size wq w' := fun wq h => ownWrite_any L g cap s wq h hE hs hl2
  have hvl := vB_le L L.length f
  have hvl2 := vB_le L L.length s
  have HOI : Hid _ := ownI_eq L s f
  have HVF : Hid _ := hvf
  have HVS : Hid _ := hvs
  have HOW : Hid _ := how
  have HPP : Hid _ := hP
  have hgl := hP.lt
  clear hvf hvs how hP
  generalize vB L L.length f = va at *
  generalize vB L L.length s = vb at *
  generalize clm L f = cf at *
  generalize clm L s = cs at *
  generalize hown : ownI L s s = ow at *
  clear hown
  generalize decide (ownW L s = some f) = od at *
  generalize L[prv L f]?.getD 0 = a at *
  generalize L[f]?.getD 0 = e at *
  generalize thrOf L f = t at *
  generalize cellOf L f = c at *
  generalize (if kd L f then 0 else regOf L f) = rg at *
  generalize L[prv L s]?.getD 0 = a2 at *
  generalize L[s]?.getD 0 = e2 at *
  generalize thrOf L s = t2 at *
  generalize cellOf L s = c2 at *
  generalize (if kd L s then 0 else regOf L s) = rg2 at *
  have hg1 : ¬ (g = w.heap.size) := by omega
  have hg2 : ¬ (g = w.heap.size + 1) := by omega
  have hbA : Below w.heap.size w ((w.alloc (.cells #[.int .i64 a, .int .i64 e, .int .i64 t, .int .i64 c, .int .i64 rg] 110)).alloc (.cells #[.int .i64 a2, .int .i64 e2, .int .i64 t2, .int .i64 c2, .int .i64 rg2] 110)) := ((Below.refl _ _).alloc (Nat.le_refl _) _).alloc (by simp) _
  have HBA : Hid _ := hbA
  have hO1 : EvBlk ((w.alloc (.cells #[.int .i64 a, .int .i64 e, .int .i64 t, .int .i64 c, .int .i64 rg] 110)).alloc (.cells #[.int .i64 a2, .int .i64 e2, .int .i64 t2, .int .i64 c2, .int .i64 rg2] 110)) 110 w.heap.size a e t c rg := (EvBlk.new w _ a e t c rg).kept ((Below.refl _ _).alloc (Nat.le_refl _) _)
  have hO2 : EvBlk ((w.alloc (.cells #[.int .i64 a, .int .i64 e, .int .i64 t, .int .i64 c, .int .i64 rg] 110)).alloc (.cells #[.int .i64 a2, .int .i64 e2, .int .i64 t2, .int .i64 c2, .int .i64 rg2] 110)) 110 (w.heap.size + 1) a2 e2 t2 c2 rg2 := by
    have := EvBlk.new (w.alloc (.cells #[.int .i64 a, .int .i64 e, .int .i64 t, .int .i64 c, .int .i64 rg] 110)) 110 a2 e2 t2 c2 rg2
    rwa [show (w.alloc (.cells #[.int .i64 a, .int .i64 e, .int .i64 t, .int .i64 c, .int .i64 rg] 110)).heap.size = w.heap.size + 1 by simp] at this
  have HO1 : Hid _ := hO1
  have HO2 : Hid _ := hO2
  clear hbA hO1 hO2
  go_enter Tryd.func102, Tryd.ntmps102
  by_cases hc : c = c2
  · have hcI : ((c : Int) == (c2 : Int)) = true := by rw [beq_iff_eq]; omega
    have HC : Hid ((c == c2) = true) := by show _ = _; rw [beq_iff_eq]; exact hc
    clear hc
    go_wp2_with fail
    refine (HVF.out _ (HPP.out.kept HBA.out)).mono ?_
    rintro r w1 ⟨rfl, hb1⟩
    have HB1 : Hid (Below w.heap.size w w1) := HBA.out.trans (hb1.mono HBA.out.size)
    have HO3 : Hid _ := HO1.out.kept hb1
    have HO4 : Hid _ := HO2.out.kept hb1
    clear hb1 HO1 HO2 HBA HVF q0 q1 q2 q3 q4 z0 z1 z2 z3 z4
    go_wp2_with fail
    refine (HVS.out _ (HPP.out.kept HB1.out)).mono ?_
    rintro r w2 ⟨rfl, hb2⟩
    have HB2 : Hid (Below w.heap.size w w2) := HB1.out.trans (hb2.mono HB1.out.size)
    have HO5 : Hid _ := HO3.out.kept hb2
    have HO6 : Hid _ := HO4.out.kept hb2
    obtain ⟨y0, y1, y2, y3, y4⟩ := HO6.out.cells
    clear hb2 HO3 HO4 HB1 HVS
    go_wp2_with fail
    refine (isWrite_any a2 e2 t2 c2 rg2 he2 _).mono ?_
    rintro r w3 ⟨rfl, hb3⟩
    have HB3 : Hid (Below w.heap.size w w3) := HB2.out.trans (hb3.mono HB2.out.size)
    have HO7 : Hid _ := HO5.out.kept hb3
    have HO8 : Hid _ := HO6.out.kept hb3
    obtain ⟨x0, x1, x2, x3, x4⟩ := HO7.out.cells
    clear hb3 HO5 HO6 HB2 y0 y1 y2 y3 y4
    cases hks : bW e2
    · -- a read
      go_wp2_with fail
      refine (isWrite_any a e t c rg he _).mono ?_
      rintro r w4 ⟨rfl, hb4⟩
      have HB4 : Hid (Below w.heap.size w w4) := HB3.out.trans (hb4.mono HB3.out.size)
      have HO9 : Hid _ := HO8.out.kept hb4
      obtain ⟨y0, y1, y2, y3, y4⟩ := HO9.out.cells
      clear hb4 HO7 HO8 HO9 HB3 x0 x1 x2 x3 x4
      cases hkf : bW e
      · have HR : Hid (bvB (c == c2) (bW e2) (bW e) cf cs od va vb = false) := by show _ = _; rw [HC.out, hks, hkf]; rfl
        go_wp2
        go_ret
        exact ⟨by rw [HR.out]; rfl, HB4.out⟩
      · go_wp2_with fail
        refine (isClaimed_any a2 e2 t2 c2 rg2 ha2 he2 _).mono ?_
        rintro r w5 ⟨rfl, hb5⟩
        rw [← HCS.out]
        have HB5 : Hid (Below w.heap.size w w5) := HB4.out.trans (hb5.mono HB4.out.size)
        clear hb5 HB4 y0 y1 y2 y3 y4
        cases hcs : cs
        · have HR : Hid (bvB (c == c2) (bW e2) (bW e) cf cs od va vb = false) := by show _ = _; rw [HC.out, hks, hkf, hcs]; rfl
          go_wp2
          go_ret
          exact ⟨by rw [HR.out]; rfl, HB5.out⟩
        · go_wp2_with fail
          refine (HOW.out _ (HPP.out.kept HB5.out)).mono ?_
          rintro r w6 ⟨rfl, hb6⟩
          have HB6 : Hid (Below w.heap.size w w6) := HB5.out.trans (hb6.mono HB5.out.size)
          clear hb6 HB5
          have hoi := HOI.out
          cases hod : od
          · rw [hod] at hoi
            have HR : Hid (bvB (c == c2) (bW e2) (bW e) cf cs od va vb = (va == vb)) := by show _ = _; rw [HC.out, hks, hkf, hcs, hod]; rfl
            have HI : Hid (((va : Int) == (vb : Int)) = (va == vb)) := by show _ = _; rw [Bool.eq_iff_iff, beq_iff_eq, beq_iff_eq]; omega
            go_wp2
            go_ret
            exact ⟨by rw [HR.out, ← HI.out]; rfl, HB6.out⟩
          · rw [hod] at hoi
            have HR : Hid (bvB (c == c2) (bW e2) (bW e) cf cs od va vb = (!(va == vb))) := by show _ = _; rw [HC.out, hks, hkf, hcs, hod]; rfl
            have HI : Hid (((va : Int) == (vb : Int)) = (va == vb)) := by show _ = _; rw [Bool.eq_iff_iff, beq_iff_eq, beq_iff_eq]; omega
            go_wp2
            go_ret
            exact ⟨by rw [HR.out, ← HI.out]; rfl, HB6.out⟩
    · -- a write
      by_cases hlt : va < vb
      · have hltI : (va : Int) < (vb : Int) := by omega
        have HD : Hid (decide (va < vb) = true) := decide_eq_true hlt
        clear hlt
        go_wp2_with fail
        refine (isWrite_any a e t c rg he _).mono ?_
        rintro r w4 ⟨rfl, hb4⟩
        have HB4 : Hid (Below w.heap.size w w4) := HB3.out.trans (hb4.mono HB3.out.size)
        have HO9 : Hid _ := HO7.out.kept hb4
        obtain ⟨y0, y1, y2, y3, y4⟩ := HO9.out.cells
        clear hb4 HO7 HO8 HO9 HB3 x0 x1 x2 x3 x4
        cases hkf : bW e
        · have HR : Hid (bvB (c == c2) (bW e2) (bW e) cf cs od va vb = cf) := by show _ = _; rw [HC.out, hks, hkf]; unfold bvB; rw [HD.out]; simp
          go_wp2_with fail
          refine (isClaimed_any a e t c rg ha he _).mono ?_
          rintro r w5 ⟨rfl, hb5⟩
          rw [← HCF.out]
          have HB5 : Hid (Below w.heap.size w w5) := HB4.out.trans (hb5.mono HB4.out.size)
          clear hb5 HB4 y0 y1 y2 y3 y4
          go_wp2
          go_ret
          exact ⟨by rw [HR.out]; rfl, HB5.out⟩
        · have HR : Hid (bvB (c == c2) (bW e2) (bW e) cf cs od va vb = true) := by show _ = _; rw [HC.out, hks, hkf]; unfold bvB; rw [HD.out]; simp
          go_wp2
          go_ret
          exact ⟨by rw [HR.out]; rfl, HB4.out⟩
      · have hltI : ¬ ((va : Int) < (vb : Int)) := by omega
        have HR : Hid (bvB (c == c2) (bW e2) (bW e) cf cs od va vb = false) := by show _ = _; rw [HC.out, hks]; unfold bvB; rw [decide_eq_false hlt]; simp
        clear hlt
        go_wp2
        go_ret
        exact ⟨by rw [HR.out]; rfl, HB3.out⟩
  · have hcI : ((c : Int) == (c2 : Int)) = false := by rw [beq_eq_false_iff_ne]; omega
    have HR : Hid (bvB (c == c2) (bW e2) (bW e) cf cs od va vb = false) := by show _ = _; rw [beq_eq_false_iff_ne.2 hc]; rfl
    clear hc
    go_wp2
    go_ret
    exact ⟨by rw [HR.out]; rfl, HBA.out⟩

end Go.Proofs.YtokfiflflcfidabDoor

namespace Go.Proofs.YtokfiflflcfidabDoor
open Go.RowKit

set_option maxRecDepth 100000 in
set_option maxHeartbeats 800000 in
theorem happensFirst_any (L : List Nat) (g cap f s : Nat) (w : World) (hP : PRd w g L) (hE : ∀ x ∈ L, x < 14) (hf : f < L.length) (hs : s < L.length) (hl2 : L.length ≤ 64) :
    Calls Tryd.prog 95 #[.slice (some ⟨g, 0, none⟩) L.length cap, .int .i64 f, .int .i64 s] w fun v w' => v = .returned (.bool (hap L f s)) ∧ Below w.heap.size w w' := by
  have HH : Hid (hap L f s = (byCode L f s || byVal L f s)) := rfl
  go_enter Tryd.func95, Tryd.ntmps95
  go_wp2_with fail
  refine (firstByCode_any L g cap f s _ hP hE hf hs hl2).mono ?_
  rintro r w1 ⟨rfl, hb1⟩
  cases hc : byCode L f s
  · have HR : Hid (hap L f s = byVal L f s) := by show _ = _; rw [HH.out, hc]; rfl
    go_wp2_with fail
    refine (firstByValue_any L g cap f s _ (hP.kept hb1) hE hf hs hl2).mono ?_
    rintro r w2 ⟨rfl, hb2⟩
    have HB : Hid (Below w.heap.size w w2) := hb1.trans (hb2.mono hb1.size)
    go_wp2
    go_ret
    exact ⟨by rw [HR.out]; rfl, HB.out⟩
  · have HR : Hid (hap L f s = true) := by show _ = _; rw [HH.out, hc]; rfl
    go_wp2
    go_ret
    exact ⟨by rw [HR.out]; rfl, hb1⟩

theorem mwt_yes {L o : List Nat} {a f : Nat} (hf : f < L.length) (h1 : isIn o f = false) (h2 : hap L f a = true) : mwt L o a = true := by
  unfold mwt
  rw [List.any_eq_true]
  exact ⟨f, List.mem_range.2 hf, by rw [h1, h2]; rfl⟩
theorem mwt_no {L o : List Nat} {a : Nat} (h : ∀ f, f < L.length → (!isIn o f && hap L f a) = false) : mwt L o a = false := by
  unfold mwt
  rw [List.any_eq_false]
  intro f hf
  rw [h f (List.mem_range.1 hf)]
  simp

set_option maxRecDepth 100000 in
set_option maxHeartbeats 800000 in
theorem mustWait_any (L : List Nat) (g cap : Nat) (o : List Nat) (ov : Value) (s : Nat) (w : World) (hP : PRd w g L) (hE : ∀ x ∈ L, x < 14) (hO : NumRd w ov o) (hol : o.length ≤ 1000) (hs : s < L.length) (hl2 : L.length ≤ 64) :
    Calls Tryd.prog 82 #[.slice (some ⟨g, 0, none⟩) L.length cap, ov, .int .i64 s] w fun v w' => v = .returned (.bool (mwt L o s)) ∧ Below w.heap.size w w' := by
  have HO : Hid _ := hO
  obtain ⟨oa, oc, rfl, _⟩ := hO
  go_enter Tryd.func82, Tryd.ntmps82
  go_wp2
  go_loopw [10] (fun i wr => ∃ n : Nat, n ≤ L.length ∧ i = .int .i64 n ∧ (∀ f, f < n → (!isIn o f && hap L f s) = false) ∧ Below w.heap.size w wr) (fun i _ => L.length - (intOf i).toNat)
  case atStart => exact ⟨0, Nat.zero_le _, rfl, fun f hf => by omega, Below.refl _ _⟩
  case round =>
    obtain ⟨n, hn, rfl, hno, hb⟩ := hrel
    have HB : Hid _ := hb
    have HN : Hid _ := hno
    clear hno hb
    by_cases hlt : n < L.length
    · have HNX : Hid ((!isIn o n && hap L n s) = false → ∀ f, f < n + 1 → (!isIn o f && hap L f s) = false) := fun h f hf => by
        by_cases hk : f = n
        · rw [hk]; exact h
        · exact HN.out f (by omega)
      cases hin : isIn o n
      · go_wp2_with fail
        refine (isAmong_any o n _ _ (NumRd.kept HO.out HB.out) hol).mono ?_
        rintro r w1 ⟨rfl, rfl⟩
        rw [hin]
        go_wp2_with fail
        refine (happensFirst_any L g cap n s _ (hP.kept HB.out) hE hlt hs hl2).mono ?_
        rintro r w2 ⟨rfl, hb2⟩
        have HB2 : Hid (Below w.heap.size w w2) := HB.out.trans (hb2.mono HB.out.size)
        clear hb2
        cases hh : hap L n s
        · have HX : Hid _ := HNX.out (by rw [hin, hh]; rfl)
          clear hin hh
          go_wp2
          go_roundw
          case rel => exact ⟨n + 1, by omega, by go_num, HX.out, HB2.out⟩
          case measure => simp [intOf]; omega
        · have HR : Hid (mwt L o s = true) := mwt_yes hlt hin hh
          clear hin hh
          go_wp2
          go_ret
          exact ⟨by rw [HR.out]; rfl, HB2.out⟩
      · go_wp2_with fail
        refine (isAmong_any o n _ _ (NumRd.kept HO.out HB.out) hol).mono ?_
        rintro r w1 ⟨rfl, rfl⟩
        rw [hin]
        have HX : Hid _ := HNX.out (by rw [hin]; rfl)
        clear hin
        go_wp2
        go_roundw
        case rel => exact ⟨n + 1, by omega, by go_num, HX.out, HB.out⟩
        case measure => simp [intOf]; omega
    · have : n = L.length := by omega
      subst this
      have HR : Hid (mwt L o s = false) := mwt_no HN.out
      go_wp2
      go_ret
      exact ⟨by rw [HR.out]; rfl, HB.out⟩

def nxI (L o : List Nat) : Int := if nx L o < L.length then (nx L o : Int) else -1
theorem nx_here {L o : List Nat} {n : Nat} (hn : n < L.length) (hno : ∀ f, f < n → (isIn o f || mwt L o f) = true) (h : (isIn o n || mwt L o n) = false) : nx L o = n := firstNo_eq _ _ n (by omega) hno (Or.inr h)
theorem nx_none {L o : List Nat} (hno : ∀ f, f < L.length → (isIn o f || mwt L o f) = true) : nx L o = L.length := firstNo_eq _ _ _ (Nat.le_refl _) hno (Or.inl rfl)

set_option maxRecDepth 100000 in
set_option maxHeartbeats 800000 in
theorem nextHappening_any (L : List Nat) (g cap : Nat) (o : List Nat) (ov : Value) (w : World) (hP : PRd w g L) (hE : ∀ x ∈ L, x < 14) (hO : NumRd w ov o) (hol : o.length ≤ 1000) (hl2 : L.length ≤ 64) :
    Calls Tryd.prog 56 #[.slice (some ⟨g, 0, none⟩) L.length cap, ov] w fun v w' => v = .returned (.int .i64 (nxI L o)) ∧ Below w.heap.size w w' := by
  have HO : Hid _ := hO
  obtain ⟨oa, oc, rfl, _⟩ := hO
  go_enter Tryd.func56, Tryd.ntmps56
  go_wp2
  go_loopw [8] (fun i wr => ∃ n : Nat, n ≤ L.length ∧ i = .int .i64 n ∧ (∀ f, f < n → (isIn o f || mwt L o f) = true) ∧ Below w.heap.size w wr) (fun i _ => L.length - (intOf i).toNat)
  case atStart => exact ⟨0, Nat.zero_le _, rfl, fun f hf => by omega, Below.refl _ _⟩
  case round =>
    obtain ⟨n, hn, rfl, hno, hb⟩ := hrel
    have HB : Hid _ := hb
    have HN : Hid _ := hno
    clear hno hb
    by_cases hlt : n < L.length
    · have HNX : Hid ((isIn o n || mwt L o n) = true → ∀ f, f < n + 1 → (isIn o f || mwt L o f) = true) := fun h f hf => by
        by_cases hk : f = n
        · rw [hk]; exact h
        · exact HN.out f (by omega)
      cases hin : isIn o n
      · go_wp2_with fail
        refine (isAmong_any o n _ _ (NumRd.kept HO.out HB.out) hol).mono ?_
        rintro r w1 ⟨rfl, rfl⟩
        rw [hin]
        go_wp2_with fail
        refine (mustWait_any L g cap o _ n _ (hP.kept HB.out) hE (NumRd.kept HO.out HB.out) hol hlt hl2).mono ?_
        rintro r w2 ⟨rfl, hb2⟩
        have HB2 : Hid (Below w.heap.size w w2) := HB.out.trans (hb2.mono HB.out.size)
        clear hb2
        cases hh : mwt L o n
        · have HR : Hid (nxI L o = (n : Int)) := by
            show _ = _
            have := nx_here hlt HN.out (by rw [hin, hh]; rfl)
            unfold nxI
            rw [this, if_pos hlt]
          clear hin hh
          go_wp2
          go_ret
          exact ⟨by rw [HR.out]; rfl, HB2.out⟩
        · have HX : Hid _ := HNX.out (by rw [hh]; simp)
          clear hin hh
          go_wp2
          go_roundw
          case rel => exact ⟨n + 1, by omega, by go_num, HX.out, HB2.out⟩
          case measure => simp [intOf]; omega
      · go_wp2_with fail
        refine (isAmong_any o n _ _ (NumRd.kept HO.out HB.out) hol).mono ?_
        rintro r w1 ⟨rfl, rfl⟩
        rw [hin]
        have HX : Hid _ := HNX.out (by rw [hin]; rfl)
        clear hin
        go_wp2
        go_roundw
        case rel => exact ⟨n + 1, by omega, by go_num, HX.out, HB.out⟩
        case measure => simp [intOf]; omega
    · have : n = L.length := by omega
      subst this
      have HR : Hid (nxI L o = -1) := by
        show _ = _
        unfold nxI
        rw [nx_none HN.out, if_neg (by omega)]
      go_wp2
      go_ret
      exact ⟨by rw [HR.out]; rfl, HB.out⟩

theorem shown_no {L : List Nat} {n : Nat} (hn : n < L.length) (h : ¬ nx L (ordTo L n) < L.length) : shown L = false := by
  rw [Bool.eq_false_iff]
  exact fun hs => h (shown_at hs hn)
theorem shown_yes {L : List Nat} (h : ∀ m, m < L.length → nx L (ordTo L m) < L.length) : shown L = true := by
  unfold shown
  rw [List.all_eq_true]
  exact fun n hn => decide_eq_true (h n (List.mem_range.1 hn))

theorem Tryd.infoIntH : (Tryd.prog.info? 3).map (fun i => (i.zero, i.size, i.bytes)) = some (some (.int .i64 0), 1, 8) := by kernel_rfl

set_option maxRecDepth 100000 in
set_option maxHeartbeats 800000 in
theorem happenings_any (L : List Nat) (g cap : Nat) (w : World) (hP : PRd w g L) (hE : ∀ x ∈ L, x < 14) (hl2 : L.length ≤ 64) :
    Calls Tryd.prog 27 #[.slice (some ⟨g, 0, none⟩) L.length cap] w fun r w' => ∃ v, r = .returned (.tuple #[v, .bool (shown L)]) ∧ (shown L = true → Own w' w.heap.size 3 v (ordTo L L.length)) ∧ (shown L = false → v = .slice none 0 0) ∧ Below w.heap.size w w' := by
  go_enter Tryd.func27, Tryd.ntmps27
  go_wp2
  go_loopw [4, 8] (fun v i wr => ∃ n : Nat, n ≤ L.length ∧ i = .int .i64 n ∧ (∀ m, m < n → nx L (ordTo L m) < L.length) ∧ Own wr w.heap.size 3 v (ordTo L n) ∧ Below w.heap.size w wr) (fun _ i _ => L.length - (intOf i).toNat)
  case atStart => exact ⟨0, Nat.zero_le _, rfl, fun f hf => by omega, Own.nil _ _ _, Below.refl _ _⟩
  case round =>
    obtain ⟨n, hn, rfl, hno, hown, hb⟩ := hrel
    have HB : Hid _ := hb
    have HN : Hid _ := hno
    have hol := ordTo_length L n
    have hol2 : (ordTo L n).length ≤ 1000 := by omega
    have HO : Hid (Own wr w.heap.size 3 _ (ordTo L n)) := hown
    have hbs := hb.size
    clear hno hb hol hown
    by_cases hlt : n < L.length
    · have HS : Hid (ordTo L (n + 1) = ordTo L n ++ [nx L (ordTo L n)]) := rfl
      go_wp2_with fail
      refine (nextHappening_any L g cap (ordTo L n) _ _ (hP.kept HB.out) hE HO.out.nums hol2 hl2).mono ?_
      rintro r w1 ⟨rfl, hb1⟩
      have HB1 : Hid (Below w.heap.size w w1) := HB.out.trans (hb1.mono hbs)
      have HO1 : Hid _ := HO.out.kept hb1
      have hbs1 : w.heap.size ≤ w1.heap.size := HB1.out.size
      clear hb1 HO HB
      by_cases hx : nx L (ordTo L n) < L.length
      · have HI : Hid (nxI L (ordTo L n) = (nx L (ordTo L n) : Int)) := by show _ = _; unfold nxI; rw [if_pos hx]
        have HNX : Hid (∀ m, m < n + 1 → nx L (ordTo L m) < L.length) := fun m hm => by
          by_cases hk : m = n
          · rw [hk]; exact hx
          · exact HN.out m (by omega)
        rw [HI.out]
        clear hx HI
        generalize nx L (ordTo L n) = x at *
        have hx0 : ¬ ((x : Int) < 0) := by omega
        go_wp2_with (at_builtin; go_must (refine wpList_pushN rfl _ _ 25 rfl w.heap.size w.heap.size w 3 Tryd.underlying25 Tryd.infoIntH _ (ordTo L n) x (by rfl) (by rfl) HO1.out (by omega) HB1.out (Nat.le_refl _) hbs1 ?_); intro v' w2 hown2 hb2 _; have HO2 : Hid _ := hown2; have HB2 : Hid _ := hb2; clear hown2 hb2)
        go_roundw
        case rel => exact ⟨n + 1, by omega, by go_num, HNX.out, by rw [HS.out]; exact HO2.out, HB2.out⟩
        case measure => simp [intOf]; omega
      · have HI : Hid (nxI L (ordTo L n) = -1) := by show _ = _; unfold nxI; rw [if_neg hx]
        have HR : Hid (shown L = false) := shown_no hlt hx
        rw [HI.out]
        clear hx HI
        go_wp2
        go_ret2
        exact ⟨_, by rw [HR.out]; rfl, fun h => (by rw [HR.out] at h; cases h), fun _ => rfl, HB1.out⟩
    · have : n = L.length := by omega
      subst this
      have HR : Hid (shown L = true) := shown_yes HN.out
      go_wp2
      go_ret2
      exact ⟨_, by rw [HR.out]; rfl, fun _ => HO.out, fun h => (by rw [HR.out] at h; cases h), HB.out⟩

end Go.Proofs.YtokfiflflcfidabDoor
