import Derived.Test.YtokfiflflcfidabRows
import Derived.Test.YtokfiflflcfidabSndT
import Derived.Test.YtokfiflflcfidabPSndI
import Derived.WalkKit
import Derived.WalkSpells
import Derived.WalkLawsBesides
import Derived.RegionTactic
import Derived.BigRegion
import Derived.Deep.QuietTactic
import Derived.BigQuiet
namespace Go.Proofs.Ytokfiflflcfidab
open Go.RowKit

def sndN (nm : List UInt8) : Bool := decide (nm.length ≤ 63) && nm.all okB
def sndW (n : Nat) (want : List Q4) : Bool := decide (want.length ≤ 32) && want.all (sndK n)
theorem sndT_eq (nm : List UInt8) (code : List (List Q4)) (want : List Q4) : sndT nm code want = (sndN nm && (decide (0 < code.length) && decide (code.length ≤ 16)) && code.all sndRow && sndW code.length want) := by
  unfold sndT sndN sndW
  cases decide (nm.length ≤ 63) <;> cases decide (0 < code.length) <;> cases decide (code.length ≤ 16) <;> cases decide (want.length ≤ 32) <;> cases nm.all okB <;> cases code.all sndRow <;> cases want.all (sndK code.length) <;> rfl

set_option maxRecDepth 100000 in
set_option maxHeartbeats 800000 in
theorem nameIsSound_any (nv : ByteArray) (w : World) (hnv : nv.size ≤ 9223372036854775807) :
    Calls Try.prog 26 #[.string nv] w fun r w' => r = .returned (.bool (sndN nv.data.toList)) ∧ ∃ m, w' = w.drewN m := by
  have HDEF : Hid (sndN nv.data.toList = (decide (nv.size ≤ 63) && nv.data.toList.all okB)) := by
    show _ = _
    have : nv.data.toList.length = nv.size := by simp
    unfold sndN
    rw [this]
  have FIN : Hid (∀ v : Bool, sndN nv.data.toList = v → ∀ w', (∃ m, w' = w.drewN m) → (Ending.returned (.bool v) = .returned (.bool (sndN nv.data.toList)) ∧ ∃ m, w' = w.drewN m)) :=
    fun v hv w' hb => ⟨by rw [hv], hb⟩
  generalize sndN nv.data.toList = res at *
  by_cases g1 : 63 < nv.size
  · have HV : Hid (res = false) := by show _ = _; rw [HDEF.out, decide_eq_false (show ¬ nv.size ≤ 63 by omega)]; simp
    go_enter Try.func26, Try.ntmps26
    go_wp2
    go_ret
    exact FIN.out _ HV.out _ ⟨0, rfl⟩
  have HD2 : Hid (res = nv.data.toList.all okB) := by
    show _ = _
    rw [HDEF.out, decide_eq_true (show nv.size ≤ 63 by omega)]
    simp
  have HNL : Hid (nv.data.toList.length = nv.size) := by show _ = _; simp
  clear HDEF
  go_enter Try.func26, Try.ntmps26
  go_wp2
  go_loopw [3] (fun i wr => ∃ k : Nat, k ≤ nv.size ∧ i = .int .i64 k ∧ (nv.data.toList.take k).all okB = true ∧ ∃ m, wr = w.drewN m) (fun i _ => nv.size - (intOf i).toNat)
  case atStart => exact ⟨0, Nat.zero_le _, rfl, by simp, 0, rfl⟩
  case round =>
    obtain ⟨k, hk, rfl, hall, m, rfl⟩ := hrel
    have HA : Hid _ := hall
    clear hall
    by_cases hlt : k < nv.size
    · have HS : Hid _ := all_take_succ okB 0 nv.data.toList k (by rw [HNL.out]; exact hlt)
      have HN : Hid _ := all_no okB 0 nv.data.toList k (by rw [HNL.out]; exact hlt)
      have HO : Hid (okB (nv.data.toList[k]?.getD 0) = (decide (32 ≤ (nv[k]'hlt).toNat) && decide ((nv[k]'hlt).toNat ≤ 126))) := by show _ = _; rw [byte_get nv k hlt]; rfl
      have hki : (k : Int) < (nv.size : Int) := by omega
      by_cases q1 : (nv[k]'hlt).toNat < 32
      · have HV : Hid (res = false) := by show _ = _; rw [HD2.out, HN.out (by rw [HO.out, decide_eq_false (by omega)]; rfl)]
        have q1i : (((nv[k]'hlt).toNat : Nat) : Int) < 32 := by omega
        clear q1
        go_wp2
        go_ret
        exact FIN.out _ HV.out _ ⟨_, rfl⟩
      · have q1i : ¬ ((((nv[k]'hlt).toNat : Nat) : Int) < 32) := by omega
        by_cases q2 : 126 < (nv[k]'hlt).toNat
        · have HV : Hid (res = false) := by show _ = _; rw [HD2.out, HN.out (by rw [HO.out, decide_eq_false (show ¬ (nv[k]'hlt).toNat ≤ 126 by omega)]; simp)]
          have q2i : (126 : Int) < (((nv[k]'hlt).toNat : Nat) : Int) := by omega
          clear q1 q2
          go_wp2
          go_ret
          exact FIN.out _ HV.out _ ⟨_, rfl⟩
        · have HK : Hid (okB (nv.data.toList[k]?.getD 0) = true) := by show _ = _; rw [HO.out, decide_eq_true (show 32 ≤ (nv[k]'hlt).toNat by omega), decide_eq_true (show (nv[k]'hlt).toNat ≤ 126 by omega)]; rfl
          have q2i : ¬ ((126 : Int) < (((nv[k]'hlt).toNat : Nat) : Int)) := by omega
          clear q1 q2
          go_wp2
          go_roundw
          case rel => exact ⟨k + 1, by omega, by go_num, by rw [HS.out, HA.out, HK.out]; rfl, _, rfl⟩
          case measure => simp [intOf]; omega
    · have HNM : Hid (nv.data.toList.all okB = true) := by
        show _ = _
        have := HA.out
        rwa [List.take_of_length_le (by rw [HNL.out]; omega)] at this
      have HV : Hid (res = true) := by show _ = _; rw [HD2.out, HNM.out]
      clear HA HD2
      go_wp2
      go_ret
      exact FIN.out _ HV.out _ ⟨_, rfl⟩

set_option maxRecDepth 100000 in
set_option maxHeartbeats 800000 in
theorem codeIsSound_any (row : List Q4) (v : Value) (lo hi : Nat) (w : World) (hR : Rd4 lo hi w v row) (hhi : hi ≤ w.heap.size) :
    Calls Try.prog 27 #[v] w fun r w' => r = .returned (.bool (sndRow row)) ∧ Below w.heap.size w w' := by
  obtain ⟨ra, rc, rfl, hR⟩ := hR
  have HR : Hid _ := hR
  clear hR
  have FIN : Hid (∀ v : Bool, sndRow row = v → ∀ w', Below w.heap.size w w' → (Ending.returned (.bool v) = .returned (.bool (sndRow row)) ∧ Below w.heap.size w w')) :=
    fun v hv w' hb => ⟨by rw [hv], hb⟩
  have HO : Hid (sndRow row = (decide (0 < row.length) && decide (row.length ≤ 32) && row.all sndI)) := rfl
  generalize sndRow row = res at *
  by_cases r1 : row.length < 1
  · have HV : Hid (res = false) := by show _ = _; rw [HO.out, decide_eq_false (show ¬ 0 < row.length by omega)]; rfl
    have r1I : (row.length : Int) < 1 := by omega
    clear r1
    go_enter Try.func27, Try.ntmps27
    go_wp2
    go_ret
    exact FIN.out _ HV.out _ (Below.refl _ _)
  have r1I : ¬ ((row.length : Int) < 1) := by omega
  by_cases r2 : 32 < row.length
  · have HV : Hid (res = false) := by show _ = _; rw [HO.out, decide_eq_false (show ¬ row.length ≤ 32 by omega)]; simp
    have r2I : (32 : Int) < (row.length : Int) := by omega
    clear r2 r1
    go_enter Try.func27, Try.ntmps27
    go_wp2
    go_ret
    exact FIN.out _ HV.out _ (Below.refl _ _)
  have r2I : ¬ ((32 : Int) < (row.length : Int)) := by omega
  have HO2 : Hid (res = row.all sndI) := by show _ = _; rw [HO.out, decide_eq_true (show 0 < row.length by omega), decide_eq_true (show row.length ≤ 32 by omega)]; simp
  clear HO
  go_enter Try.func27, Try.ntmps27
  go_wp2
  go_loopw [15] (fun i wr => ∃ j : Nat, j ≤ row.length ∧ i = .int .i64 j ∧ (row.take j).all sndI = true ∧ Below w.heap.size w wr) (fun i _ => row.length - (intOf i).toNat)
  case atStart => exact ⟨0, Nat.zero_le _, rfl, by simp, Below.refl _ _⟩
  case round =>
    obtain ⟨j, hj, rfl, hall, hb⟩ := hrel
    have HB : Hid _ := hb
    have HA : Hid _ := hall
    have hsz := hb.size
    clear hb hall
    by_cases hjl : j < row.length
    · obtain ⟨rb, ro, rfl, hrlo, hrhi, hat⟩ := HR.out j hjl
      have hrbw : rb < w.heap.size := by omega
      have hbn : ¬ (rb = wr.heap.size) := by omega
      have x0 := (HB.out.cell (p := ⟨rb, ro + j * 4, none⟩) hrbw).trans hat.f0
      have x1 := (HB.out.cell (p := ⟨rb, ro + j * 4 + 1, none⟩) hrbw).trans hat.f1
      have x2 := (HB.out.cell (p := ⟨rb, ro + j * 4 + 2, none⟩) hrbw).trans hat.f2
      have x3 := (HB.out.cell (p := ⟨rb, ro + j * 4 + 3, none⟩) hrbw).trans hat.f3
      have HSJ : Hid _ := all_take_succ sndI q0 row j hjl
      have HNJ : Hid _ := all_no sndI q0 row j hjl
      clear hat
      generalize row[j]?.getD q0 = x at *
      cases hsx : sndI x
      · have HV : Hid (res = false) := by show _ = _; rw [HO2.out]; exact HNJ.out hsx
        go_wp2_with (go_at_call 37; refine (insIsSound_any x _).mono ?_; rintro r w1 ⟨rfl, hb1⟩; rw [hsx]; have HB1 : Hid (Below w.heap.size w w1) := (HB.out.alloc HB.out.size _).trans (hb1.mono (by have := HB.out.size; simp; omega)); clear hb1)
        go_ret
        exact FIN.out _ HV.out _ HB1.out
      · go_wp2_with (go_at_call 37; refine (insIsSound_any x _).mono ?_; rintro r w1 ⟨rfl, hb1⟩; rw [hsx]; have HB1 : Hid (Below w.heap.size w w1) := (HB.out.alloc HB.out.size _).trans (hb1.mono (by have := HB.out.size; simp; omega)); clear hb1)
        go_roundw
        case rel => exact ⟨j + 1, by omega, by go_num, by rw [HSJ.out, HA.out, hsx]; rfl, HB1.out⟩
        case measure => simp [intOf]; omega
    · have HV : Hid (res = true) := by
        show _ = _
        have := HA.out
        rw [List.take_of_length_le (by omega)] at this
        rw [HO2.out, this]
      go_wp2
      go_ret
      exact FIN.out _ HV.out _ HB.out

set_option maxRecDepth 100000 in
set_option maxHeartbeats 800000 in
theorem wantIsSound_any (want : List Q4) (v : Value) (n : Nat) (lo hi : Nat) (w : World) (hR : Rd4 lo hi w v want) (hhi : hi ≤ w.heap.size) :
    Calls Try.prog 28 #[v, .int .i64 n] w fun r w' => r = .returned (.bool (sndW n want)) ∧ Below w.heap.size w w' := by
  obtain ⟨ra, rc, rfl, hR⟩ := hR
  have HR : Hid _ := hR
  clear hR
  have FIN : Hid (∀ v : Bool, sndW n want = v → ∀ w', Below w.heap.size w w' → (Ending.returned (.bool v) = .returned (.bool (sndW n want)) ∧ Below w.heap.size w w')) :=
    fun v hv w' hb => ⟨by rw [hv], hb⟩
  have HO : Hid (sndW n want = (decide (want.length ≤ 32) && want.all (sndK n))) := rfl
  generalize sndW n want = res at *
  by_cases r2 : 32 < want.length
  · have HV : Hid (res = false) := by show _ = _; rw [HO.out, decide_eq_false (show ¬ want.length ≤ 32 by omega)]; simp
    have r2I : (32 : Int) < (want.length : Int) := by omega
    clear r2
    go_enter Try.func28, Try.ntmps28
    go_wp2
    go_ret
    exact FIN.out _ HV.out _ (Below.refl _ _)
  have r2I : ¬ ((32 : Int) < (want.length : Int)) := by omega
  have HO2 : Hid (res = want.all (sndK n)) := by show _ = _; rw [HO.out, decide_eq_true (show want.length ≤ 32 by omega)]; simp
  clear HO
  go_enter Try.func28, Try.ntmps28
  go_wp2
  go_loopw [12] (fun i wr => ∃ j : Nat, j ≤ want.length ∧ i = .int .i64 j ∧ (want.take j).all (sndK n) = true ∧ Below w.heap.size w wr) (fun i _ => want.length - (intOf i).toNat)
  case atStart => exact ⟨0, Nat.zero_le _, rfl, by simp, Below.refl _ _⟩
  case round =>
    obtain ⟨j, hj, rfl, hall, hb⟩ := hrel
    have HB : Hid _ := hb
    have HA : Hid _ := hall
    have hsz := hb.size
    clear hb hall
    by_cases hjl : j < want.length
    · obtain ⟨rb, ro, rfl, hrlo, hrhi, hat⟩ := HR.out j hjl
      have hrbw : rb < w.heap.size := by omega
      have hbn : ¬ (rb = wr.heap.size) := by omega
      have x0 := (HB.out.cell (p := ⟨rb, ro + j * 4, none⟩) hrbw).trans hat.f0
      have x1 := (HB.out.cell (p := ⟨rb, ro + j * 4 + 1, none⟩) hrbw).trans hat.f1
      have x2 := (HB.out.cell (p := ⟨rb, ro + j * 4 + 2, none⟩) hrbw).trans hat.f2
      have x3 := (HB.out.cell (p := ⟨rb, ro + j * 4 + 3, none⟩) hrbw).trans hat.f3
      have HSJ : Hid _ := all_take_succ (sndK n) q0 want j hjl
      have HNJ : Hid _ := all_no (sndK n) q0 want j hjl
      clear hat
      generalize want[j]?.getD q0 = x at *
      cases hsx : sndK n x
      · have HV : Hid (res = false) := by show _ = _; rw [HO2.out]; exact HNJ.out hsx
        go_wp2_with (go_at_call 38; refine (claimIsSound_any x n _).mono ?_; rintro r w1 ⟨rfl, hb1⟩; rw [hsx]; have HB1 : Hid (Below w.heap.size w w1) := (HB.out.alloc HB.out.size _).trans (hb1.mono (by have := HB.out.size; simp; omega)); clear hb1)
        go_ret
        exact FIN.out _ HV.out _ HB1.out
      · go_wp2_with (go_at_call 38; refine (claimIsSound_any x n _).mono ?_; rintro r w1 ⟨rfl, hb1⟩; rw [hsx]; have HB1 : Hid (Below w.heap.size w w1) := (HB.out.alloc HB.out.size _).trans (hb1.mono (by have := HB.out.size; simp; omega)); clear hb1)
        go_roundw
        case rel => exact ⟨j + 1, by omega, by go_num, by rw [HSJ.out, HA.out, hsx]; rfl, HB1.out⟩
        case measure => simp [intOf]; omega
    · have HV : Hid (res = true) := by
        show _ = _
        have := HA.out
        rw [List.take_of_length_le (by omega)] at this
        rw [HO2.out, this]
      go_wp2
      go_ret
      exact FIN.out _ HV.out _ HB.out

set_option maxRecDepth 100000 in
set_option maxHeartbeats 800000 in
theorem isSound_any (nv : ByteArray) (cv wv : Value) (code : List (List Q4)) (want : List Q4) (lo hi : Nat) (w : World) (hC : Rd44 lo hi w cv code) (hW : Rd4 lo hi w wv want) (hhi : hi ≤ w.heap.size) (hnv : nv.size ≤ 9223372036854775807) :
    Calls Try.prog 20 #[.agg #[.string nv, cv, wv]] w fun r w' => r = .returned (.bool (sndT nv.data.toList code want)) ∧ Below w.heap.size w w' := by
  obtain ⟨ca, cc, rfl, hC⟩ := hC
  obtain ⟨wa, wc, rfl, hW⟩ := hW
  have HC : Hid _ := hC
  have HW : Hid (Rd4 lo hi w (.slice wa want.length wc) want) := ⟨wa, wc, rfl, hW⟩
  have HDEF : Hid _ := sndT_eq nv.data.toList code want
  have hI0 := BInv.init 31 w (.string nv) (.slice ca code.length cc) (.slice wa want.length wc)
  have HI0 : Hid _ := hI0
  have HNV : Hid _ := hnv
  clear hC hW hI0 hnv
  have FIN : Hid (∀ v : Bool, sndT nv.data.toList code want = v → ∀ w', Below w.heap.size w w' → (Ending.returned (.bool v) = .returned (.bool (sndT nv.data.toList code want)) ∧ Below w.heap.size w w')) :=
    fun v hv w' hb => ⟨by rw [hv], hb⟩
  generalize sndT nv.data.toList code want = res at *
  have HNM : Hid _ := nameIsSound_any nv (w.alloc (.cells #[.string nv, .slice ca code.length cc, .slice wa want.length wc] 31)) HNV.out
  cases hn : sndN nv.data.toList
  · have HV : Hid (res = false) := by show _ = _; rw [HDEF.out, hn]; rfl
    rw [hn] at HNM
    go_enter Try.func20, Try.ntmps20
    go_wp2_with (go_at_call 26; refine Calls.mono HNM.out ?_; rintro r w1 ⟨rfl, m, rfl⟩)
    go_ret
    exact FIN.out _ HV.out _ (HI0.out.drew m).below
  rw [hn] at HNM
  have HD2 : Hid (res = ((decide (0 < code.length) && decide (code.length ≤ 16)) && code.all sndRow && sndW code.length want)) := by show _ = _; rw [HDEF.out, hn]; rfl
  clear HDEF
  by_cases g2 : code.length < 1
  · have g2I : (code.length : Int) < 1 := by omega
    have HV : Hid (res = false) := by show _ = _; rw [HD2.out, decide_eq_false (show ¬ 0 < code.length by omega)]; rfl
    clear g2
    go_enter Try.func20, Try.ntmps20
    go_wp2_with (go_at_call 26; refine Calls.mono HNM.out ?_; rintro r w1 ⟨rfl, m, rfl⟩)
    go_ret
    exact FIN.out _ HV.out _ (HI0.out.drew m).below
  have g2I : ¬ ((code.length : Int) < 1) := by omega
  by_cases g3 : 16 < code.length
  · have g3I : (16 : Int) < (code.length : Int) := by omega
    have HV : Hid (res = false) := by show _ = _; rw [HD2.out, decide_eq_false (show ¬ code.length ≤ 16 by omega)]; simp
    clear g3 g2
    go_enter Try.func20, Try.ntmps20
    go_wp2_with (go_at_call 26; refine Calls.mono HNM.out ?_; rintro r w1 ⟨rfl, m, rfl⟩)
    go_ret
    exact FIN.out _ HV.out _ (HI0.out.drew m).below
  have g3I : ¬ ((16 : Int) < (code.length : Int)) := by omega
  have HD3 : Hid (res = (code.all sndRow && sndW code.length want)) := by
    show _ = _
    rw [HD2.out, decide_eq_true (show 0 < code.length by omega), decide_eq_true (show code.length ≤ 16 by omega)]
    simp
  clear HD2
  go_enter Try.func20, Try.ntmps20
  go_wp2_with (go_at_call 26; refine Calls.mono HNM.out ?_; rintro r w1 ⟨rfl, m, rfl⟩)
  go_loopw [22] (fun i wr => ∃ k : Nat, k ≤ code.length ∧ i = .int .i64 k ∧ (code.take k).all sndRow = true ∧ BInv 31 w wr (.string nv) (.slice ca code.length cc) (.slice wa want.length wc)) (fun i _ => code.length - (intOf i).toNat)
  case atStart => exact ⟨0, Nat.zero_le _, rfl, by simp, HI0.out.drew m⟩
  case round =>
    obtain ⟨k, hk, rfl, hall, hI⟩ := hrel
    have c1 := hI.c1
    have c2 := hI.c2
    have hsz := hI.sz
    have HI : Hid _ := hI
    have HA : Hid _ := hall
    clear hI hall
    by_cases hklt : k < code.length
    · obtain ⟨cb, co, vk, rfl, hcl, hch, hcell, hrow⟩ := HC.out k hklt
      have hcb : cb < w.heap.size := by omega
      have hck := (HI.out.below.cell (p := ⟨cb, co + k, none⟩) hcb).trans hcell
      obtain ⟨ra, rc, hvk, _⟩ := id hrow
      have HROW : Hid (Rd4 lo hi wr vk (code[k]?.getD [])) := Rd4.span hrow ((Span.of_below HI.out.below hhi).mono (Nat.zero_le _) (Nat.le_refl _))
      obtain ⟨rl, hrl⟩ : ∃ rl, rl = (code[k]?.getD []).length := ⟨_, rfl⟩
      rw [← hrl] at hvk
      subst hvk
      have HS : Hid _ := all_take_succ sndRow [] code k hklt
      have HN : Hid _ := all_no sndRow [] code k hklt
      have hcall := codeIsSound_any (code[k]?.getD []) (.slice ra rl rc) lo hi wr HROW.out (by omega)
      clear hrow hcell hrl HROW
      generalize code[k]?.getD [] = row at *
      cases hsr : sndRow row
      · have HV : Hid (res = false) := by show _ = _; rw [HD3.out, HN.out hsr]; rfl
        rw [hsr] at hcall
        have HCALL : Hid _ := hcall
        clear hcall
        go_wp2_with (go_at_call 27; refine Calls.mono HCALL.out ?_; rintro r w1 ⟨rfl, hb1⟩; have HB1 : Hid _ := hb1; clear hb1)
        go_ret
        exact FIN.out _ HV.out _ (HI.out.kept HB1.out).below
      · rw [hsr] at hcall
        have HCALL : Hid _ := hcall
        clear hcall
        go_wp2_with (go_at_call 27; refine Calls.mono HCALL.out ?_; rintro r w1 ⟨rfl, hb1⟩; have HB1 : Hid _ := hb1; clear hb1)
        go_roundw
        case rel => exact ⟨k + 1, by omega, by go_num, by rw [HS.out, HA.out, hsr]; rfl, HI.out.kept HB1.out⟩
        case measure => simp [intOf]; omega
    · have HCM : Hid (code.all sndRow = true) := by
        show _ = _
        have := HA.out
        rwa [List.take_of_length_le (by omega)] at this
      have HV : Hid (res = sndW code.length want) := by show _ = _; rw [HD3.out, HCM.out]; simp
      have hcall := wantIsSound_any want (.slice wa want.length wc) code.length lo hi wr (Rd4.span HW.out ((Span.of_below HI.out.below hhi).mono (Nat.zero_le _) (Nat.le_refl _))) (by omega)
      have HCALL : Hid _ := hcall
      clear hcall HA HD3
      generalize sndW code.length want = rw0 at *
      go_wp2_with (go_at_call 28; refine Calls.mono HCALL.out ?_; rintro r w1 ⟨rfl, hb1⟩; have HB1 : Hid _ := hb1; clear hb1)
      go_ret
      exact FIN.out _ HV.out _ (HI.out.kept HB1.out).below

end Go.Proofs.Ytokfiflflcfidab
