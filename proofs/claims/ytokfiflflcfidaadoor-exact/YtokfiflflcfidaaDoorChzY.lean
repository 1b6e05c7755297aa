import Derived.Test.YtokfiflflcfidaaDoorRows
import Derived.Test.YtokfiflflcfidaaDoorChzX
import Derived.WalkKit
import Derived.WalkSpells
import Derived.WalkLawsBesides
import Derived.RegionTactic
import Derived.BigRegion
import Derived.Deep.QuietTactic
import Derived.BigQuiet
namespace Go.Proofs.YtokfiflflcfidaaDoor
open Go.RowKit

set_option maxRecDepth 100000 in
set_option maxHeartbeats 3200000 in
theorem chosen_any (l : List Ev) (b cap : Nat) (ps : List Int) (pv : Value) (w : World) (hA : EArr w b l) (hP : ScrRd w pv ps) (hl2 : l.length ≤ 64) (hC : ∀ i, i < l.length → (l[i]?.getD ev0).ce ≤ 64) :
    Calls Tryd.prog 26 #[.slice (some ⟨b, 0, none⟩) l.length cap, pv] w fun r w' => ∃ fv pl, r = .returned (.agg #[fv, pl]) ∧ RdZ w' fv (frmTo l ps l.length) ∧ RdZ w' pl (plcTo l ps l.length) ∧ Below w.heap.size w w' := by
  have HP : Hid _ := hP
  obtain ⟨sa, sc, rfl, hsc⟩ := hP
  clear hsc
  go_enter Tryd.func26, Tryd.ntmps26
  go_wp2
  go_loopw [6] (fun i wr => ∃ (k : Nat) (fa : Option Addr) (fc : Nat) (pa : Option Addr) (pc : Nat), k ≤ l.length ∧ i = .int .i64 k ∧ CAll 60 3 w wr (.slice fa k fc) (.slice pa k pc) (frmTo l ps k) (plcTo l ps k)) (fun i _ => l.length - (intOf i).toNat)
  case atStart => exact ⟨0, none, 0, none, 0, Nat.zero_le _, rfl, CInv.init _ _, OwnZ.nil _ _ _, OwnZ.nil _ _ _, fun k hk => by simp [Value.ownBlock] at hk⟩
  case round =>
    rename World => wo
    obtain ⟨k, fa, fc, pa, pc, hk, rfl, hall⟩ := hrel
    have HA0 : Hid _ := hall
    have hszo := hall.inv.sz
    have hblo := hall.inv.below
    have hEo := hA.kept hblo
    have HEO : Hid _ := hEo
    by_cases hlt : k < l.length
    · have hck := (hEo.at hlt).ce
      have hwk := (hEo.at hlt).wr
      have hce := hC k hlt
      have hlf : (frmTo l ps k).length ≤ 1000000 := by simp [frmTo]; omega
      have hlp : (plcTo l ps k).length ≤ 1000000 := by simp [plcTo]; omega
      have hlf2 : (frmTo l ps k).length = k := by simp [frmTo]
      have hlp2 : (plcTo l ps k).length = k := by simp [plcTo]
      have HLF2 : Hid _ := hlf2
      have HLP2 : Hid _ := hlp2
      have HFS : Hid _ := frmTo_succ l ps k
      have HPS : Hid _ := plcTo_succ l ps k
      have hbo : b < wo.heap.size := hEo.1
      have HBLO : Hid _ := hblo
      clear hall hEo hblo hlf2 hlp2
      go_wp2
      go_loopw [7, 8, 9] (fun v m j wr => ∃ q : Nat, q ≤ l.length ∧ j = .int .i64 q ∧ Own wr wo.heap.size 3 v (wsTo l k q) ∧ m = .int .i64 (mineTo l k q : Nat) ∧ Below wo.heap.size wo wr) (fun _ _ j _ => l.length - (intOf j).toNat)
      case atStart => exact ⟨0, Nat.zero_le _, rfl, Own.nil _ _ _, by rw [show mineTo l k 0 = 0 from Nat.le_zero.1 (mineTo_le l k 0)]; rfl, Below.refl _ _⟩
      case round =>
        obtain ⟨q, hq, rfl, hown, rfl, hb⟩ := hrel
        have hml := mineTo_le l k q
        have hwl := wsTo_le l k q
        have HB : Hid _ := hb
        have HO : Hid (Own wr wo.heap.size 3 _ (wsTo l k q)) := hown
        have hsw := hb.size
        have hck2 := (hb.cell (p := ⟨b, k * 6 + 2, none⟩) hbo).trans hck
        have hwk2 := (hb.cell (p := ⟨b, k * 6, none⟩) hbo).trans hwk
        by_cases hql : q < l.length
        · have E := (EArr.kept HEO.out hb).at hql
          have hwq := E.wr
          have hcq := E.ce
          have HWS : Hid _ := wsTo_succ l k q
          have HMS : Hid _ := mineTo_succ l k q
          have HISW : Hid (isW (l[k]?.getD ev0).ce (l[q]?.getD ev0) = ((l[q]?.getD ev0).wr && (l[q]?.getD ev0).ce == (l[k]?.getD ev0).ce)) := rfl
          clear E hb hown hck hwk
          generalize isW (l[k]?.getD ev0).ce (l[q]?.getD ev0) = iw at *
          generalize (l[q]?.getD ev0).wr = wq at *
          generalize (l[q]?.getD ev0).ce = cq at *
          generalize (l[k]?.getD ev0).ce = ck at *
          generalize (l[k]?.getD ev0).wr = wk at *
          generalize mineTo l k q = mq at *
          cases wq
          · have HF : Hid (iw = false) := by show _ = _; rw [HISW.out]; rfl
            go_wp2
            go_quiet (fail)
            go_wp2
            go_roundw
            case rel => exact ⟨q + 1, by omega, by go_num, by rw [HWS.out, HF.out]; simpa using Own.kept HO.out (below_drewN (Below.refl _ _) _), by rw [HMS.out, HF.out]; simp, below_drewN HB.out _⟩
            case measure => simp [intOf]; omega
          · by_cases hc : cq = ck
            · have hcI : ((cq : Int) == (ck : Int)) = true := by rw [beq_iff_eq]; omega
              have HF : Hid (iw = true) := by show _ = _; rw [HISW.out, hc]; simp
              clear hc
              by_cases hqk : q < k
              all_goals
                go_wp2
                go_quiet (fail)
                go_wp2_with (at_builtin; go_must (refine wpList_pushN rfl _ _ 25 rfl wo.heap.size wo.heap.size wo 3 Tryd.underlying25 Tryd.infoInt _ _ q (by rfl) (by rfl) (Own.kept HO.out (below_drewN (Below.refl _ _) _)) (by omega) (below_drewN HB.out _) (Nat.le_refl _) (by simpa using hsw) ?_); intro v' w1 hown1 hb1 _; have HO1 : Hid _ := hown1; have HB1 : Hid _ := hb1; clear hown1 hb1)
                go_roundw
                case rel => exact ⟨q + 1, by omega, by go_num, by rw [HWS.out, HF.out]; exact HO1.out, by rw [HMS.out, HF.out]; simp [hqk], HB1.out⟩
                case measure => simp [intOf]; omega
            · have hcI : ((cq : Int) == (ck : Int)) = false := by rw [beq_eq_false_iff_ne]; omega
              have HF : Hid (iw = false) := by show _ = _; rw [HISW.out, beq_eq_false_iff_ne.2 hc]; rfl
              clear hc
              go_wp2
              go_quiet (fail)
              go_wp2
              go_roundw
              case rel => exact ⟨q + 1, by omega, by go_num, by rw [HWS.out, HF.out]; simpa using Own.kept HO.out (below_drewN (Below.refl _ _) _), by rw [HMS.out, HF.out]; simp, below_drewN HB.out _⟩
              case measure => simp [intOf]; omega
        · have hqe : q = l.length := by omega
          subst hqe
          have hmi := mineTo_all l k l.length hk
          have HWO : Hid (wsTo l k l.length = wsOf l k) := rfl
          rw [HWO.out] at HO hwl
          rw [hmi] at hml
          rw [hmi]
          have hpk := fun i n h => pickL_any ps (.slice sa ps.length sc) i n wr (ScrRd.kept (ScrRd.kept HP.out HBLO.out) HB.out) h
          have HPK : Hid _ := hpk
          have HALL : Hid _ := CAll.kept HA0.out hb
          have u0 := HALL.out.inv.u0
          have hw64 : (wsOf l k).length ≤ 64 := by omega
          have HFR : Hid (frmOf l ps k = if (l[k]?.getD ev0).wr then 0 else if pkN ps k ((wsOf l k).length + 1) = 0 then 0 else (wsOf l k)[pkN ps k ((wsOf l k).length + 1) - 1]?.getD 0 + 1) := rfl
          have HPL : Hid (plcOf l ps k = if (l[k]?.getD ev0).wr then (if pkN ps (l.length + (l[k]?.getD ev0).ce) 2 = 1 then (wsOf l k).length - 1 - mineOf l k else mineOf l k) else 0) := rfl
          have HML : Hid _ := mine_lt l k hlt
          have hp1 := pkN_lt ps k (n := (wsOf l k).length + 1) (by omega)
          have hszr := HALL.out.inv.sz
          clear hmi hpk hb hown hck hwk
          rcases Own.split HO.out with ⟨hwv, hnil⟩ | ⟨wg, wcap, hwv, _, hWG⟩
          · subst hwv
            have hnn : (wsOf l k).length = 0 := by rw [hnil]; rfl
            rw [hnn] at HFR HPL HML hp1
            clear HO hnil hnn hw64 hwl
            generalize (l[k]?.getD ev0).ce = ck at *
            generalize (l[k]?.getD ev0).wr = wk at *
            generalize mineOf l k = mm at *
            cases wk
            · have hcall := HPK.out k (0 + 1) ⟨by omega, by omega⟩
              generalize pkN ps k (0 + 1) = kk at *
              have hk0 : kk = 0 := by omega
              subst hk0
              have HZF : Hid ((frmOf l ps k : Int) - 1 = -1) := by show _ = _; rw [HFR.out]; simp
              have HZP : Hid ((plcOf l ps k : Int) = 0) := by show _ = _; rw [HPL.out]; simp
              go_wp2_with (first | (go_at_call 46; refine Calls.mono hcall ?_; rintro r w9 ⟨rfl, rfl⟩) | (at_builtin; refine wpList_pushZ rfl (.tmp 90) _ 25 rfl (w.heap.size + 2) 3 Tryd.underlying25 Tryd.infoInt _ (frmTo l ps k) (-1) (by rfl) (by rfl) HALL.out.of hlf (by omega) ?_; intro v1 w1 hown1 hg1; obtain ⟨a1, c1, hv1⟩ := OwnZ.len hown1; rw [List.length_append, HLF2.out, List.length_singleton] at hv1; subst hv1; obtain ⟨hI1, hAll1⟩ := HALL.out.from_ hg1 hown1; have s0 := hI1.u0; have s1 := hI1.free 0; have t0 := hI1.u1; have t1 := hAll1.inv.u1; have HALL1 : Hid _ := hAll1; have hsz1 := hAll1.inv.sz; clear hown1 hg1 hI1 hAll1) | (at_builtin; refine wpList_pushZ rfl (.tmp 96) _ 25 rfl (w.heap.size + 2) 3 Tryd.underlying25 Tryd.infoInt _ (plcTo l ps k) 0 (by rfl) (by simp [Act.eval]) HALL1.out.op hlp hsz1 ?_; intro v2 w2 hown2 hg2; obtain ⟨a2, c2, hv2⟩ := OwnZ.len hown2; rw [List.length_append, HLP2.out, List.length_singleton] at hv2; subst hv2; obtain ⟨hI2, hAll2⟩ := HALL1.out.place hg2 hown2; have s2 := hI2.u1; have s3 := hI2.free 1; have HALL2 : Hid _ := hAll2; clear hown2 hg2 hI2 hAll2 s0 s1 t0 t1))
              go_roundw
              case rel => exact ⟨k + 1, a1, c1, a2, c2, by omega, by go_num, by rw [HFS.out, HPS.out, HZF.out, HZP.out]; exact HALL2.out⟩
              case measure => simp [intOf]; omega
            · have := HML.out rfl
              omega
          · subst hwv
            obtain ⟨nn, hnn⟩ : ∃ nn, nn = (wsOf l k).length := ⟨_, rfl⟩
            have HNN : Hid _ := hnn
            rw [← hnn] at HFR HPL HML hp1 hw64
            rw [← hnn]
            clear hnn HO hwl
            generalize (l[k]?.getD ev0).ce = ck at *
            generalize (l[k]?.getD ev0).wr = wk at *
            generalize mineOf l k = mm at *
            cases wk
            · have hcall := HPK.out k (nn + 1) ⟨by omega, by omega⟩
              generalize pkN ps k (nn + 1) = kk at *
              by_cases hk0 : kk = 0
              · subst hk0
                have HZF : Hid ((frmOf l ps k : Int) - 1 = -1) := by show _ = _; rw [HFR.out]; simp
                have HZP : Hid ((plcOf l ps k : Int) = 0) := by show _ = _; rw [HPL.out]; simp
                go_wp2_with (first | (go_at_call 46; refine Calls.mono hcall ?_; rintro r w9 ⟨rfl, rfl⟩) | (at_builtin; refine wpList_pushZ rfl (.tmp 90) _ 25 rfl (w.heap.size + 2) 3 Tryd.underlying25 Tryd.infoInt _ (frmTo l ps k) (-1) (by rfl) (by rfl) HALL.out.of hlf (by omega) ?_; intro v1 w1 hown1 hg1; obtain ⟨a1, c1, hv1⟩ := OwnZ.len hown1; rw [List.length_append, HLF2.out, List.length_singleton] at hv1; subst hv1; obtain ⟨hI1, hAll1⟩ := HALL.out.from_ hg1 hown1; have s0 := hI1.u0; have s1 := hI1.free 0; have t0 := hI1.u1; have t1 := hAll1.inv.u1; have HALL1 : Hid _ := hAll1; have hsz1 := hAll1.inv.sz; clear hown1 hg1 hI1 hAll1) | (at_builtin; refine wpList_pushZ rfl (.tmp 96) _ 25 rfl (w.heap.size + 2) 3 Tryd.underlying25 Tryd.infoInt _ (plcTo l ps k) 0 (by rfl) (by simp [Act.eval]) HALL1.out.op hlp hsz1 ?_; intro v2 w2 hown2 hg2; obtain ⟨a2, c2, hv2⟩ := OwnZ.len hown2; rw [List.length_append, HLP2.out, List.length_singleton] at hv2; subst hv2; obtain ⟨hI2, hAll2⟩ := HALL1.out.place hg2 hown2; have s2 := hI2.u1; have s3 := hI2.free 1; have HALL2 : Hid _ := hAll2; clear hown2 hg2 hI2 hAll2 s0 s1 t0 t1))
                go_roundw
                case rel => exact ⟨k + 1, a1, c1, a2, c2, by omega, by go_num, by rw [HFS.out, HPS.out, HZF.out, HZP.out]; exact HALL2.out⟩
                case measure => simp [intOf]; omega
              · have hkp : (0 : Int) < (kk : Int) := by omega
                obtain ⟨x, hx⟩ : ∃ x, x = (wsOf l k)[kk - 1]?.getD 0 := ⟨_, rfl⟩
                have HZF : Hid ((frmOf l ps k : Int) - 1 = (x : Int)) := by show _ = _; rw [HFR.out, ← hx]; simp [hk0]
                have HZP : Hid ((plcOf l ps k : Int) = 0) := by show _ = _; rw [HPL.out]; simp
                have hcx := hWG.at0 (k := kk - 1) (by rw [← HNN.out]; omega)
                rw [← hx] at hcx
                have hki : ((kk : Int) - 1).toNat = kk - 1 := by omega
                clear hx
                go_wp2_with (first | (go_at_call 46; refine Calls.mono hcall ?_; rintro r w9 ⟨rfl, rfl⟩) | (at_builtin; refine wpList_pushZ rfl (.tmp 90) _ 25 rfl (w.heap.size + 2) 3 Tryd.underlying25 Tryd.infoInt _ (frmTo l ps k) (x : Int) (by rfl) (by rfl) HALL.out.of hlf (by omega) ?_; intro v1 w1 hown1 hg1; obtain ⟨a1, c1, hv1⟩ := OwnZ.len hown1; rw [List.length_append, HLF2.out, List.length_singleton] at hv1; subst hv1; obtain ⟨hI1, hAll1⟩ := HALL.out.from_ hg1 hown1; have s0 := hI1.u0; have s1 := hI1.free 0; have t0 := hI1.u1; have t1 := hAll1.inv.u1; have HALL1 : Hid _ := hAll1; have hsz1 := hAll1.inv.sz; clear hown1 hg1 hI1 hAll1) | (at_builtin; refine wpList_pushZ rfl (.tmp 96) _ 25 rfl (w.heap.size + 2) 3 Tryd.underlying25 Tryd.infoInt _ (plcTo l ps k) 0 (by rfl) (by simp [Act.eval]) HALL1.out.op hlp hsz1 ?_; intro v2 w2 hown2 hg2; obtain ⟨a2, c2, hv2⟩ := OwnZ.len hown2; rw [List.length_append, HLP2.out, List.length_singleton] at hv2; subst hv2; obtain ⟨hI2, hAll2⟩ := HALL1.out.place hg2 hown2; have s2 := hI2.u1; have s3 := hI2.free 1; have HALL2 : Hid _ := hAll2; clear hown2 hg2 hI2 hAll2 s0 s1 t0 t1))
                go_roundw
                case rel => exact ⟨k + 1, a1, c1, a2, c2, by omega, by go_num, by rw [HFS.out, HPS.out, HZF.out, HZP.out]; exact HALL2.out⟩
                case measure => simp [intOf]; omega
            · have hcall := HPK.out (l.length + ck) 2 ⟨by omega, by omega⟩
              have hml2 := HML.out rfl
              have hcst : ((l.length + ck : Nat) : Int) = (l.length : Int) + (ck : Int) := by omega
              rw [hcst] at hcall
              generalize pkN ps (l.length + ck) 2 = tt at *
              have HZF : Hid ((frmOf l ps k : Int) - 1 = -1) := by show _ = _; rw [HFR.out]; simp
              by_cases ht : tt = 1
              · subst ht
                have HZP : Hid ((plcOf l ps k : Int) = (nn : Int) - 1 - (mm : Int)) := by show _ = _; rw [HPL.out]; simp; omega
                clear hcst
                go_wp2_with (first | (go_at_call 46; refine Calls.mono hcall ?_; rintro r w9 ⟨rfl, rfl⟩) | (at_builtin; refine wpList_pushZ rfl (.tmp 90) _ 25 rfl (w.heap.size + 2) 3 Tryd.underlying25 Tryd.infoInt _ (frmTo l ps k) (-1) (by rfl) (by rfl) HALL.out.of hlf (by omega) ?_; intro v1 w1 hown1 hg1; obtain ⟨a1, c1, hv1⟩ := OwnZ.len hown1; rw [List.length_append, HLF2.out, List.length_singleton] at hv1; subst hv1; obtain ⟨hI1, hAll1⟩ := HALL.out.from_ hg1 hown1; have s0 := hI1.u0; have s1 := hI1.free 0; have t0 := hI1.u1; have t1 := hAll1.inv.u1; have HALL1 : Hid _ := hAll1; have hsz1 := hAll1.inv.sz; clear hown1 hg1 hI1 hAll1) | (at_builtin; refine wpList_pushZ rfl (.tmp 96) _ 25 rfl (w.heap.size + 2) 3 Tryd.underlying25 Tryd.infoInt _ (plcTo l ps k) ((nn : Int) - 1 - (mm : Int)) (by rfl) (by simp [Act.eval]) HALL1.out.op hlp hsz1 ?_; intro v2 w2 hown2 hg2; obtain ⟨a2, c2, hv2⟩ := OwnZ.len hown2; rw [List.length_append, HLP2.out, List.length_singleton] at hv2; subst hv2; obtain ⟨hI2, hAll2⟩ := HALL1.out.place hg2 hown2; have s2 := hI2.u1; have s3 := hI2.free 1; have HALL2 : Hid _ := hAll2; clear hown2 hg2 hI2 hAll2 s0 s1 t0 t1))
                go_roundw
                case rel => exact ⟨k + 1, a1, c1, a2, c2, by omega, by go_num, by rw [HFS.out, HPS.out, HZF.out, HZP.out]; exact HALL2.out⟩
                case measure => simp [intOf]; omega
              · have htI : ((tt : Int) == 1) = false := by rw [beq_eq_false_iff_ne]; omega
                have HZP : Hid ((plcOf l ps k : Int) = (mm : Int)) := by show _ = _; rw [HPL.out, if_pos rfl, if_neg ht]
                clear hcst
                go_wp2_with (first | (go_at_call 46; refine Calls.mono hcall ?_; rintro r w9 ⟨rfl, rfl⟩) | (at_builtin; refine wpList_pushZ rfl (.tmp 90) _ 25 rfl (w.heap.size + 2) 3 Tryd.underlying25 Tryd.infoInt _ (frmTo l ps k) (-1) (by rfl) (by rfl) HALL.out.of hlf (by omega) ?_; intro v1 w1 hown1 hg1; obtain ⟨a1, c1, hv1⟩ := OwnZ.len hown1; rw [List.length_append, HLF2.out, List.length_singleton] at hv1; subst hv1; obtain ⟨hI1, hAll1⟩ := HALL.out.from_ hg1 hown1; have s0 := hI1.u0; have s1 := hI1.free 0; have t0 := hI1.u1; have t1 := hAll1.inv.u1; have HALL1 : Hid _ := hAll1; have hsz1 := hAll1.inv.sz; clear hown1 hg1 hI1 hAll1) | (at_builtin; refine wpList_pushZ rfl (.tmp 96) _ 25 rfl (w.heap.size + 2) 3 Tryd.underlying25 Tryd.infoInt _ (plcTo l ps k) (mm : Int) (by rfl) (by simp [Act.eval]) HALL1.out.op hlp hsz1 ?_; intro v2 w2 hown2 hg2; obtain ⟨a2, c2, hv2⟩ := OwnZ.len hown2; rw [List.length_append, HLP2.out, List.length_singleton] at hv2; subst hv2; obtain ⟨hI2, hAll2⟩ := HALL1.out.place hg2 hown2; have s2 := hI2.u1; have s3 := hI2.free 1; have HALL2 : Hid _ := hAll2; clear hown2 hg2 hI2 hAll2 s0 s1 t0 t1))
                go_roundw
                case rel => exact ⟨k + 1, a1, c1, a2, c2, by omega, by go_num, by rw [HFS.out, HPS.out, HZF.out, HZP.out]; exact HALL2.out⟩
                case measure => simp [intOf]; omega
    · have hke : k = l.length := by omega
      subst hke
      have u0 := hall.inv.u0
      have u1 := hall.inv.u1
      have r0 : wo.cell? ⟨w.heap.size, 0, none⟩ = some (.slice none 0 0) := by rw [cell_of_row _ _ 0 _ _ _ hall.inv.hR]; rfl
      have r1 : wo.cell? ⟨w.heap.size, 1, none⟩ = some (.slice none 0 0) := by rw [cell_of_row _ _ 1 _ _ _ hall.inv.hR]; rfl
      have f0 : wo.frozen? ⟨w.heap.size, 0, none⟩ = false := frozen_of_row _ _ 0 _ _ hall.inv.hR
      have f1 : wo.frozen? ⟨w.heap.size, 1, none⟩ = false := frozen_of_row _ _ 1 _ _ hall.inv.hR
      have hsp : Span (w.heap.size + 2) wo.heap.size wo ((wo.setCell ⟨w.heap.size, 0, none⟩ (.slice fa l.length fc)).setCell ⟨w.heap.size, 1, none⟩ (.slice pa l.length pc)) := ((Span.refl _ _ wo).set (Or.inl (by omega)) _).set (Or.inl (by omega)) _
      have HF : Hid _ := OwnZ.rd (ownsRow_span hall.of hsp (Nat.le_refl _) (Nat.le_refl _))
      have HPP : Hid _ := OwnZ.rd (ownsRow_span hall.op hsp (Nat.le_refl _) (Nat.le_refl _))
      have HBF : Hid (Below w.heap.size w ((wo.setCell ⟨w.heap.size, 0, none⟩ (.slice fa l.length fc)).setCell ⟨w.heap.size, 1, none⟩ (.slice pa l.length pc))) := (hblo.setCell (Nat.le_refl _) _).setCell (Nat.le_refl _) _
      clear hall hsp hEo hblo
      go_wp2
      refine bodyPost_ret (v := .agg #[.slice fa l.length fc, .slice pa l.length pc]) (by simp [results, Tryd.results26, go_sem, r0, r1]) rfl ⟨_, _, rfl, HF.out, HPP.out, HBF.out⟩

end Go.Proofs.YtokfiflflcfidaaDoor
