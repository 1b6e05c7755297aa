import Derived.Test.YtokfiflflcfidabRows
import Derived.Test.YtokfiflflcfidabPlain
import Derived.Test.YtokfiflflcfidabMem
import Derived.Test.YtokfiflflcfidabMemQ
import Derived.Test.YtokfiflflcfidabSndI
import Derived.WalkKit
import Derived.WalkSpells
import Derived.WalkLawsBesides
import Derived.RegionTactic
import Derived.BigRegion
import Derived.Deep.RegionWith
import Derived.Deep.QuietTactic
import Derived.BigQuiet
namespace Go.Proofs.Ytokfiflflcfidab
open Go.RowKit

def okB (b : UInt8) : Bool := decide (32 ≤ b.toNat) && decide (b.toNat ≤ 126)
def sndRow (l : List Q4) : Bool := decide (0 < l.length) && decide (l.length ≤ 32) && l.all sndI
/-- a sound test -/
def sndT (nm : List UInt8) (code : List (List Q4)) (want : List Q4) : Bool :=
  decide (nm.length ≤ 63) && decide (0 < code.length) && decide (code.length ≤ 16) && decide (want.length ≤ 32) && nm.all okB && code.all sndRow && want.all (sndK code.length)

/-- a struct of three cells that was boxed at w.heap.size -/
structure BInv (T : Nat) (w wr : World) (a b c : Value) : Prop where
  below : Below w.heap.size w wr
  hT : wr.heap[w.heap.size]? = some (.cells #[a, b, c] T (0, 0))
theorem BInv.init (T : Nat) (w : World) (a b c : Value) : BInv T w (w.alloc (.cells #[a, b, c] T)) a b c := ⟨(Below.refl _ _).alloc (Nat.le_refl _) _, heap_alloc_new w _⟩
theorem BInv.sz {T : Nat} {w wr : World} {a b c : Value} (h : BInv T w wr a b c) : w.heap.size < wr.heap.size := (Array.getElem?_eq_some_iff.1 h.hT).1
theorem BInv.c0 {T : Nat} {w wr : World} {a b c : Value} (h : BInv T w wr a b c) : wr.cell? ⟨w.heap.size, 0, none⟩ = some a := by rw [cell_of_row _ _ 0 _ _ _ h.hT]; rfl
theorem BInv.c1 {T : Nat} {w wr : World} {a b c : Value} (h : BInv T w wr a b c) : wr.cell? ⟨w.heap.size, 1, none⟩ = some b := by rw [cell_of_row _ _ 1 _ _ _ h.hT]; rfl
theorem BInv.c2 {T : Nat} {w wr : World} {a b c : Value} (h : BInv T w wr a b c) : wr.cell? ⟨w.heap.size, 2, none⟩ = some c := by rw [cell_of_row _ _ 2 _ _ _ h.hT]; rfl
theorem BInv.kept {T : Nat} {w wr w' : World} {a b c : Value} (h : BInv T w wr a b c) (hb : Below wr.heap.size wr w') : BInv T w w' a b c :=
  ⟨h.below.trans (hb.mono (Nat.le_of_lt h.sz)), (hb.block _ h.sz).trans h.hT⟩
theorem BInv.drew {T : Nat} {w wr : World} {a b c : Value} (h : BInv T w wr a b c) (m : Nat) : BInv T w (wr.drewN m) a b c := h.kept (below_drewN (Below.refl _ _) m)

theorem all_take_succ {α : Type} (p : α → Bool) (d : α) (l : List α) (n : Nat) (h : n < l.length) : (l.take (n + 1)).all p = ((l.take n).all p && p (l[n]?.getD d)) := by
  rw [List.take_succ_eq_append_getElem h, List.all_append]; simp [h]
theorem all_no {α : Type} (p : α → Bool) (d : α) (l : List α) (n : Nat) (h : n < l.length) (hp : p (l[n]?.getD d) = false) : l.all p = false := by
  rw [List.all_eq_false]
  exact ⟨l[n], List.getElem_mem h, by simp [h] at hp; simp [hp]⟩
theorem byte_get (s : ByteArray) (k : Nat) (h : k < s.size) : s.data.toList[k]?.getD 0 = s[k]'h := by
  have h2 : k < s.data.toList.length := by simpa using h
  rw [List.getElem?_eq_getElem h2]
  simp [ByteArray.getElem_eq_getElem_data]

set_option maxRecDepth 100000 in
set_option maxHeartbeats 1600000 in
theorem sound_any (nv : ByteArray) (cv wv : Value) (code : List (List Q4)) (want : List Q4) (lo hi : Nat) (w : World) (hC : Rd44 lo hi w cv code) (hW : Rd4 lo hi w wv want) (hhi : hi ≤ w.heap.size) (hnv : nv.size ≤ 9223372036854775807) :
    Calls Try.prog 6 #[.agg #[.string nv, cv, wv]] w fun r w' => r = .returned (.bool (sndT nv.data.toList code want)) ∧ Below w.heap.size w w' := by
  obtain ⟨ca, cc, rfl, hC⟩ := hC
  obtain ⟨wa, wc, rfl, hW⟩ := hW
  have HC : Hid _ := hC
  have HW : Hid _ := hW
  have HDEF : Hid (sndT nv.data.toList code want = (decide (nv.size ≤ 63) && decide (0 < code.length) && decide (code.length ≤ 16) && decide (want.length ≤ 32) && nv.data.toList.all okB && code.all sndRow && want.all (sndK code.length))) := by
    show _ = _
    have : nv.data.toList.length = nv.size := by simp
    unfold sndT
    rw [this]
  clear hC hW
  have FIN : Hid (∀ v : Bool, sndT nv.data.toList code want = v → ∀ w', Below w.heap.size w w' → (Ending.returned (.bool v) = .returned (.bool (sndT nv.data.toList code want)) ∧ Below w.heap.size w w')) :=
    fun v hv w' hb => ⟨by rw [hv], hb⟩
  generalize sndT nv.data.toList code want = res at *
  by_cases g1 : 63 < nv.size
  · have HV : Hid (res = false) := by show _ = _; rw [HDEF.out, decide_eq_false (show ¬ nv.size ≤ 63 by omega)]; simp
    go_enter Try.func6, Try.ntmps6
    go_wp2
    go_ret
    exact FIN.out _ HV.out _ (BInv.init _ _ _ _ _).below
  by_cases g2 : code.length = 0
  · have g2I : ((code.length : Int) == 0) = true := by rw [beq_iff_eq]; omega
    have HV : Hid (res = false) := by show _ = _; rw [HDEF.out, decide_eq_false (show ¬ 0 < code.length by omega)]; simp
    clear g2
    go_enter Try.func6, Try.ntmps6
    go_wp2
    go_ret
    exact FIN.out _ HV.out _ (BInv.init _ _ _ _ _).below
  have g2I : ((code.length : Int) == 0) = false := by rw [beq_eq_false_iff_ne]; omega
  by_cases g3 : 16 < code.length
  · have HV : Hid (res = false) := by show _ = _; rw [HDEF.out, decide_eq_false (show ¬ code.length ≤ 16 by omega)]; simp
    go_enter Try.func6, Try.ntmps6
    go_wp2
    go_ret
    exact FIN.out _ HV.out _ (BInv.init _ _ _ _ _).below
  by_cases g4 : 32 < want.length
  · have HV : Hid (res = false) := by show _ = _; rw [HDEF.out, decide_eq_false (show ¬ want.length ≤ 32 by omega)]; simp
    go_enter Try.func6, Try.ntmps6
    go_wp2
    go_ret
    exact FIN.out _ HV.out _ (BInv.init _ _ _ _ _).below
  have HD2 : Hid (res = (nv.data.toList.all okB && code.all sndRow && want.all (sndK code.length))) := by
    show _ = _
    rw [HDEF.out, decide_eq_true (show nv.size ≤ 63 by omega), decide_eq_true (show 0 < code.length by omega), decide_eq_true (show code.length ≤ 16 by omega), decide_eq_true (show want.length ≤ 32 by omega)]
    simp
  have hnl : nv.data.toList.length = nv.size := by simp
  have HNL : Hid _ := hnl
  clear HDEF hnl
  go_enter Try.func6, Try.ntmps6
  go_wp2
  go_loopw [3] (fun i wr => ∃ k : Nat, k ≤ nv.size ∧ i = .int .i64 k ∧ (nv.data.toList.take k).all okB = true ∧ BInv 25 w wr (.string nv) (.slice ca code.length cc) (.slice wa want.length wc)) (fun i _ => nv.size - (intOf i).toNat)
  case atStart => exact ⟨0, Nat.zero_le _, rfl, by simp, BInv.init _ _ _ _ _⟩
  case round =>
    obtain ⟨k, hk, rfl, hall, hI⟩ := hrel
    have c0 := hI.c0
    have hsz := hI.sz
    have HI : Hid _ := hI
    have HA : Hid _ := hall
    clear hI hall
    by_cases hlt : k < nv.size
    · have HS : Hid _ := all_take_succ okB 0 nv.data.toList k (by rw [HNL.out]; exact hlt)
      have HN : Hid _ := all_no okB 0 nv.data.toList k (by rw [HNL.out]; exact hlt)
      have HO : Hid (okB (nv.data.toList[k]?.getD 0) = (decide (32 ≤ (nv[k]'hlt).toNat) && decide ((nv[k]'hlt).toNat ≤ 126))) := by show _ = _; rw [byte_get nv k hlt]; rfl
      have hki : (k : Int) < (nv.size : Int) := by omega
      by_cases q1 : (nv[k]'hlt).toNat < 32
      · have HV : Hid (res = false) := by show _ = _; rw [HD2.out, HN.out (by rw [HO.out, decide_eq_false (by omega)]; rfl)]; simp
        have q1i : (((nv[k]'hlt).toNat : Nat) : Int) < 32 := by omega
        clear q1
        go_wp2
        go_ret
        exact FIN.out _ HV.out _ HI.out.below
      · have q1i : ¬ ((((nv[k]'hlt).toNat : Nat) : Int) < 32) := by omega
        by_cases q2 : 126 < (nv[k]'hlt).toNat
        · have HV : Hid (res = false) := by show _ = _; rw [HD2.out, HN.out (by rw [HO.out, decide_eq_false (show ¬ (nv[k]'hlt).toNat ≤ 126 by omega)]; simp)]; simp
          have q2i : (126 : Int) < (((nv[k]'hlt).toNat : Nat) : Int) := by omega
          clear q1 q2
          go_wp2
          go_ret
          exact FIN.out _ HV.out _ HI.out.below
        · have HK : Hid (okB (nv.data.toList[k]?.getD 0) = true) := by show _ = _; rw [HO.out, decide_eq_true (show 32 ≤ (nv[k]'hlt).toNat by omega), decide_eq_true (show (nv[k]'hlt).toNat ≤ 126 by omega)]; rfl
          have q2i : ¬ ((126 : Int) < (((nv[k]'hlt).toNat : Nat) : Int)) := by omega
          clear q1 q2
          go_wp2
          go_roundw
          case rel => exact ⟨k + 1, by omega, by go_num, by rw [HS.out, HA.out, HK.out]; rfl, HI.out⟩
          case measure => simp [intOf]; omega
    · have HNM : Hid (nv.data.toList.all okB = true) := by
        show _ = _
        have := HA.out
        rwa [List.take_of_length_le (by rw [HNL.out]; omega)] at this
      have HD3 : Hid (res = (code.all sndRow && want.all (sndK code.length))) := by show _ = _; rw [HD2.out, HNM.out]; simp
      clear HA HD2
      go_wp2
      go_loopw [4] (fun i wr => ∃ k : Nat, k ≤ code.length ∧ i = .int .i64 k ∧ (code.take k).all sndRow = true ∧ BInv 25 w wr (.string nv) (.slice ca code.length cc) (.slice wa want.length wc)) (fun i _ => code.length - (intOf i).toNat)
      case atStart => exact ⟨0, Nat.zero_le _, rfl, by simp, HI.out⟩
      case round =>
        clear HI c0 hsz
        rename World => wo
        obtain ⟨m, hm, rfl, hall, hI⟩ := hrel
        have c1 := hI.c1
        have hsz := hI.sz
        have HI : Hid _ := hI
        have HA : Hid _ := hall
        clear hI hall
        by_cases hmlt : m < code.length
        · obtain ⟨cb, co, vk, rfl, hcl, hch, hcell, hrow⟩ := HC.out m hmlt
          have hcb : cb < w.heap.size := by omega
          obtain ⟨ra, rc, rfl, hrow⟩ := hrow
          have HROW : Hid _ := hrow
          have hck := (HI.out.below.cell (p := ⟨cb, co + m, none⟩) hcb).trans hcell
          have HS : Hid _ := all_take_succ sndRow [] code m hmlt
          have HN : Hid _ := all_no sndRow [] code m hmlt
          have HO : Hid (sndRow (code[m]?.getD []) = (decide (0 < (code[m]?.getD []).length) && decide ((code[m]?.getD []).length ≤ 32) && (code[m]?.getD []).all sndI)) := rfl
          have hcbo : cb < wo.heap.size := by omega
          clear hrow hcell
          generalize code[m]?.getD [] = row at *
          generalize sndRow row = sr at *
          by_cases r1 : row.length = 0
          · have r1I : ((row.length : Int) == 0) = true := by rw [beq_iff_eq]; omega
            have HV : Hid (res = false) := by show _ = _; rw [HD3.out, HN.out (by rw [HO.out, decide_eq_false (by omega)]; rfl)]; rfl
            clear r1
            go_wp2
            go_ret
            exact FIN.out _ HV.out _ HI.out.below
          · have r1I : ((row.length : Int) == 0) = false := by rw [beq_eq_false_iff_ne]; omega
            by_cases r2 : 32 < row.length
            · have HV : Hid (res = false) := by show _ = _; rw [HD3.out, HN.out (by rw [HO.out, decide_eq_false (show ¬ row.length ≤ 32 by omega)]; simp)]; rfl
              go_wp2
              go_ret
              exact FIN.out _ HV.out _ HI.out.below
            · have HO2 : Hid (sr = row.all sndI) := by show _ = _; rw [HO.out, decide_eq_true (show 0 < row.length by omega), decide_eq_true (show row.length ≤ 32 by omega)]; simp
              clear HO
              go_wp2
              go_loopw [5] (fun i wr => ∃ j : Nat, j ≤ row.length ∧ i = .int .i64 j ∧ (row.take j).all sndI = true ∧ Below wo.heap.size wo wr) (fun i _ => row.length - (intOf i).toNat)
              case atStart => exact ⟨0, Nat.zero_le _, rfl, by simp, Below.refl _ _⟩
              case round =>
                obtain ⟨j, hj, rfl, hallj, hbi⟩ := hrel
                have d1 := (hbi.cell (p := ⟨w.heap.size, 1, none⟩) hsz).trans c1
                have d2 := (hbi.cell (p := ⟨cb, co + m, none⟩) hcbo).trans hck
                have hsi := hbi.size
                have HBI : Hid _ := hbi
                have HAJ : Hid _ := hallj
                clear hbi hallj c1 hck
                by_cases hjl : j < row.length
                · obtain ⟨rb, ro, rfl, hrlo, hrhi, hat⟩ := HROW.out j hjl
                  have hrbo : rb < wo.heap.size := by omega
                  have hrbw : rb < w.heap.size := by omega
                  have x0 := ((HBI.out.cell (p := ⟨rb, ro + j * 4, none⟩) hrbo).trans ((HI.out.below.cell (p := ⟨rb, ro + j * 4, none⟩) hrbw).trans hat.f0))
                  have x1 := ((HBI.out.cell (p := ⟨rb, ro + j * 4 + 1, none⟩) hrbo).trans ((HI.out.below.cell (p := ⟨rb, ro + j * 4 + 1, none⟩) hrbw).trans hat.f1))
                  have x2 := ((HBI.out.cell (p := ⟨rb, ro + j * 4 + 2, none⟩) hrbo).trans ((HI.out.below.cell (p := ⟨rb, ro + j * 4 + 2, none⟩) hrbw).trans hat.f2))
                  have x3 := ((HBI.out.cell (p := ⟨rb, ro + j * 4 + 3, none⟩) hrbo).trans ((HI.out.below.cell (p := ⟨rb, ro + j * 4 + 3, none⟩) hrbw).trans hat.f3))
                  have HSJ : Hid _ := all_take_succ sndI q0 row j hjl
                  have HNJ : Hid _ := all_no sndI q0 row j hjl
                  clear hat
                  generalize row[j]?.getD q0 = x at *
                  go_wp2_with fail
                  refine (soundIns_any x _).mono ?_
                  rintro r w1 ⟨rfl, hb1⟩
                  have hb2 : Below wo.heap.size wo w1 := HBI.out.trans (hb1.mono hsi)
                  have HB2 : Hid _ := hb2
                  clear x0 x1 x2 x3 d1 d2 hb1 hb2
                  cases hsx : sndI x
                  · have HV : Hid (res = false) := by show _ = _; rw [HD3.out, HN.out (by rw [HO2.out]; exact HNJ.out hsx)]; rfl
                    go_wp2
                    go_ret
                    exact FIN.out _ HV.out _ (HI.out.kept HB2.out).below
                  · go_wp2
                    go_roundw
                    case rel => exact ⟨j + 1, by omega, by go_num, by rw [HSJ.out, HAJ.out, hsx]; rfl, HB2.out⟩
                    case measure => simp [intOf]; omega
                · have HE : Hid (sr = true) := by
                    show _ = _
                    have := HAJ.out
                    rw [List.take_of_length_le (by omega)] at this
                    rw [HO2.out, this]
                  go_wp2
                  go_roundw
                  case rel => exact ⟨m + 1, by omega, by go_num, by rw [HS.out, HA.out, HE.out]; rfl, HI.out.kept HBI.out⟩
                  case measure => simp [intOf]; omega
        · have HCM : Hid (code.all sndRow = true) := by
            show _ = _
            have := HA.out
            rwa [List.take_of_length_le (by omega)] at this
          have HD4 : Hid (res = want.all (sndK code.length)) := by show _ = _; rw [HD3.out, HCM.out]; simp
          clear HA HD3
          go_wp2
          go_loopw [6] (fun i wr => ∃ j : Nat, j ≤ want.length ∧ i = .int .i64 j ∧ (want.take j).all (sndK code.length) = true ∧ BInv 25 w wr (.string nv) (.slice ca code.length cc) (.slice wa want.length wc)) (fun i _ => want.length - (intOf i).toNat)
          case atStart => exact ⟨0, Nat.zero_le _, rfl, by simp, HI.out⟩
          case round =>
            clear HI c1 hsz
            obtain ⟨j, hj, rfl, hallj, hI⟩ := hrel
            have c1 := hI.c1
            have c2 := hI.c2
            have hsz := hI.sz
            have HI : Hid _ := hI
            have HA : Hid _ := hallj
            clear hI hallj
            by_cases hjl : j < want.length
            · obtain ⟨rb, ro, rfl, hrlo, hrhi, hat⟩ := HW.out j hjl
              have hrbw : rb < w.heap.size := by omega
              have hrbr : rb < wr.heap.size := by omega
              have x0 := (HI.out.below.cell (p := ⟨rb, ro + j * 4, none⟩) hrbw).trans hat.f0
              have x1 := (HI.out.below.cell (p := ⟨rb, ro + j * 4 + 1, none⟩) hrbw).trans hat.f1
              have x2 := (HI.out.below.cell (p := ⟨rb, ro + j * 4 + 2, none⟩) hrbw).trans hat.f2
              have x3 := (HI.out.below.cell (p := ⟨rb, ro + j * 4 + 3, none⟩) hrbw).trans hat.f3
              have HSJ : Hid _ := all_take_succ (sndK code.length) q0 want j hjl
              have HNJ : Hid _ := all_no (sndK code.length) q0 want j hjl
              clear hat
              generalize want[j]?.getD q0 = x at *
              cases hsx : sndK code.length x
              · have HV : Hid (res = false) := by show _ = _; rw [HD4.out]; exact HNJ.out hsx
                go_wp2
                go_region_with (go_at_call 19; refine (soundClaim_any x code.length _).mono ?_; rintro r w1 ⟨rfl, hb1⟩; have HB1 : Hid _ := hb1; clear hb1; try rw [hsx])
                all_goals go_wp2
                all_goals go_ret
                all_goals exact FIN.out _ HV.out _ (((HI.out.drew _).kept HB1.out)).below
              · go_wp2
                go_region_with (go_at_call 19; refine (soundClaim_any x code.length _).mono ?_; rintro r w1 ⟨rfl, hb1⟩; have HB1 : Hid _ := hb1; clear hb1; try rw [hsx])
                all_goals go_wp2
                all_goals go_roundw
                all_goals first | exact ⟨j + 1, by omega, by go_num, by rw [HSJ.out, HA.out, hsx]; rfl, (HI.out.drew _).kept HB1.out⟩ | (simp [intOf]; omega)
            · have HWM : Hid (want.all (sndK code.length) = true) := by
                show _ = _
                have := HA.out
                rwa [List.take_of_length_le (by omega)] at this
              have HV : Hid (res = true) := by show _ = _; rw [HD4.out, HWM.out]
              go_wp2
              go_ret
              exact FIN.out _ HV.out _ HI.out.below

end Go.Proofs.Ytokfiflflcfidab
