import Derived.Test.YtokfiflflcfidaaDoorRows
import Derived.Test.YtokfiflflcfidaaDoorLawX
import Derived.WalkKit
import Derived.WalkSpells
import Derived.WalkLawsBesides
import Derived.Deep.QuietTactic
import Derived.BigQuiet
namespace Go.Proofs.YtokfiflflcfidaaDoor
open Go.RowKit

set_option maxRecDepth 100000 in
set_option maxHeartbeats 800000 in
theorem sameInts_any (x : List Int) (v u : Value) (n : Nat) (w : World) (hn : x.length = n) (hX : RdZ w v x) (hY : RdZ w u x) (hn2 : n ≤ 1000) :
    Calls Tryd.prog 30 #[v, u] w fun r w' => r = .returned (.bool true) ∧ Below w.heap.size w w' := by
  obtain ⟨xa, xc, rfl, hx⟩ := hX
  obtain ⟨ya, yc, rfl, hy⟩ := hY
  rw [hn]
  have HX : Hid _ := hx
  have HY : Hid _ := hy
  have HN : Hid _ := hn
  clear hx hy hn
  go_enter Tryd.func30, Tryd.ntmps30
  go_wp2
  go_loopw [5] (fun i wr => ∃ k : Nat, k ≤ n ∧ i = .int .i64 k ∧ Below w.heap.size w wr) (fun i _ => n - (intOf i).toNat)
  case atStart => exact ⟨0, Nat.zero_le _, rfl, Below.refl _ _⟩
  case round =>
    obtain ⟨k, hk, rfl, hb⟩ := hrel
    by_cases hlt : k < n
    · obtain ⟨b1, rfl, hb1, hc1⟩ := HX.out k (by rw [HN.out]; exact hlt)
      obtain ⟨b2, rfl, hb2, hc2⟩ := HY.out k (by rw [HN.out]; exact hlt)
      have d1 := (hb.cell (p := ⟨b1, k, none⟩) hb1).trans hc1
      have d2 := (hb.cell (p := ⟨b2, k, none⟩) hb2).trans hc2
      have HB : Hid _ := hb
      generalize x[k]?.getD 0 = z at *
      clear hb hc1 hc2
      go_wp2
      go_quiet (fail)
      go_wp2
      go_roundw
      case rel => exact ⟨k + 1, by omega, by go_num, below_drewN HB.out _⟩
      case measure => simp [intOf]; omega
    · go_wp2
      go_ret
      exact ⟨rfl, hb⟩

theorem frm_same {L : List Nat} {ps qs : List Int} (h : ∀ i, i < L.length → FR L ps i = FR L qs i ∧ PL L ps i = PL L qs i) : frmTo (eventsL L) qs L.length = frmTo (eventsL L) ps L.length ∧ plcTo (eventsL L) qs L.length = plcTo (eventsL L) ps L.length := by
  constructor
  · unfold frmTo
    apply List.map_congr_left
    intro i hi
    have : frmOf (eventsL L) ps i = frmOf (eventsL L) qs i := (h i (List.mem_range.1 hi)).1
    rw [this]
  · unfold plcTo
    apply List.map_congr_left
    intro i hi
    have : plcOf (eventsL L) ps i = plcOf (eventsL L) qs i := (h i (List.mem_range.1 hi)).2
    rw [this]

set_option maxRecDepth 100000 in
set_option maxHeartbeats 3200000 in
theorem one_any (s : ByteArray) (hs : s.size ≤ 9223372036854775807) (sv tv : Value) (ps qs : List Int) (w : World) (hSc : ScrRd w sv ps) (hTc : ScrRd w tv qs) (hT : TabN w) (hTR : TabR w) :
    Calls Tryd.prog 10 #[.string s, sv, tv] w fun r w' => r = .returned (.bool true) ∧ Below w.heap.size w w' := by
  have HSC : Hid _ := hSc
  have HTC : Hid _ := hTc
  obtain ⟨sa, sc, rfl, hsc⟩ := hSc
  obtain ⟨ta, tc, rfl, htc⟩ := hTc
  clear hsc htc
  go_enter Tryd.func10, Tryd.ntmps10
  go_wp2_with fail
  refine (read_any s hs _ hTR).mono ?_
  rintro r w1 ⟨v, rfl, hyes, hno, hb1⟩
  by_cases h0 : (rd s.data.toList).1 = 0
  · obtain ⟨g, go, gc, rfl, hgl, hG⟩ := hyes h0
    obtain ⟨hR, hlast, h16, hbl, hrl, hE, hpos⟩ := rd_ring h0
    have hbd := built_any s hs g go gc w1 hG h0 (hT.kept hb1) (hTR.kept hb1)
    have hbe : (baseL s.data.toList).length = (edgesOf s.data.toList).length := hbl
    rw [hbe] at hbd
    have HBD : Hid _ := hbd
    have HK : Hid (RingK (ringL s.data.toList)) := ⟨hR, hlast, h16⟩
    have HON : Hid _ := one_met hR h16 hlast ps qs
    have hL16 : (ringL s.data.toList).length ≤ 1000 := by omega
    rw [h0]
    generalize ringL s.data.toList = L at *
    clear hyes hno hbd hR hlast h16 hbl hrl hE hbe hgl h0 hpos
    go_wp2_with fail
    refine Calls.mono HBD.out ?_
    rintro r w2 ⟨nv, ca, cn, cc, wa, wn, wc, g2, c2, rfl, hC, hWt, hEA, hg2, hb2⟩
    have HCN : Hid _ := cn_of hC
    have hbb : Below w.heap.size w w2 := hb1.trans (hb2.mono hb1.size)
    have hbt : Below w2.heap.size w2 (w2.alloc (.cells #[.string nv, .slice ca cn cc, .slice wa wn wc] 52)) := (Below.refl _ _).alloc (Nat.le_refl _) _
    have hbb2 : Below w.heap.size w (w2.alloc (.cells #[.string nv, .slice ca cn cc, .slice wa wn wc] 52)) := hbb.trans (hbt.mono hbb.size)
    have hch := choose_any HK.out g2 c2 ps (.slice sa ps.length sc) _ (hEA.kept hbt) (ScrRd.kept HSC.out hbb2)
    have HCH : Hid _ := hch
    have HW2 : Hid _ := Rd4.span hWt (Span.of_below hbt (Nat.le_refl _))
    have HEA2 : Hid _ := hEA.kept hbt
    have HBB2 : Hid _ := hbb2
    clear hch hbt hC hWt hEA hbb2 hbb hb2
    go_wp2_with fail
    refine Calls.mono HCH.out ?_
    rintro r w3 ⟨fa, fc, pa, pc, rfl, hF, hP, hb3⟩
    have hs3 : w2.heap.size + 1 ≤ w3.heap.size := by have := hb3.size; simpa using this
    have hrowt : w3.heap[w2.heap.size]? = some (.cells #[.string nv, .slice ca cn cc, .slice wa wn wc] 52 (0, 0)) := (hb3.block _ (by simp)).trans (heap_alloc_new w2 _)
    have hbr : Below w3.heap.size w3 (w3.alloc (.cells #[.slice fa L.length fc, .slice pa L.length pc] 60)) := (Below.refl _ _).alloc (Nat.le_refl _) _
    have HBB3 : Hid _ := (HBB2.out.trans (hb3.mono HBB2.out.size)).trans (hbr.mono (Nat.le_trans HBB2.out.size hb3.size))
    have HEA3 : Hid _ := (EArr.kept HEA2.out hb3).kept hbr
    have HW3 : Hid _ := Rd4.span (Rd4.span HW2.out (Span.of_below hb3 (by simp))) (Span.of_below hbr (by omega))
    have HF3 : Hid _ := hF.kept hbr
    have HP3 : Hid _ := hP.kept hbr
    have HROWT : Hid _ := (hbr.block w2.heap.size (by omega)).trans hrowt
    have hch2 := choose_any HK.out g2 c2 qs (.slice ta qs.length tc) _ HEA3.out (ScrRd.kept HTC.out HBB3.out)
    have HCH2 : Hid _ := hch2
    clear hch2 hbr hF hP hrowt HEA2 HCH hb3 HW2
    go_wp2_with fail
    refine Calls.mono HCH2.out ?_
    rintro r w4 ⟨fa2, fc2, pa2, pc2, rfl, hF2, hP2, hb4⟩
    have hs4 : w3.heap.size + 1 ≤ w4.heap.size := by have := hb4.size; simpa using this
    have hbr2 : Below w4.heap.size w4 (w4.alloc (.cells #[.slice fa2 L.length fc2, .slice pa2 L.length pc2] 60)) := (Below.refl _ _).alloc (Nat.le_refl _) _
    have hrowr : w4.heap[w3.heap.size]? = some (.cells #[.slice fa L.length fc, .slice pa L.length pc] 60 (0, 0)) := (hb4.block _ (by simp)).trans (heap_alloc_new w3 _)
    have HBB4 : Hid _ := (HBB3.out.trans (hb4.mono HBB3.out.size)).trans (hbr2.mono (Nat.le_trans HBB3.out.size hb4.size))
    have HEA4 : Hid _ := (EArr.kept HEA3.out hb4).kept hbr2
    have HW4 : Hid _ := Rd4.span (Rd4.span HW3.out (Span.of_below hb4 (by simp; omega))) (Span.of_below hbr2 (by omega))
    have HF4 : Hid _ := (RdZ.kept HF3.out hb4).kept hbr2
    have HP4 : Hid _ := (RdZ.kept HP3.out hb4).kept hbr2
    have HG4 : Hid _ := hF2.kept hbr2
    have HQ4 : Hid _ := hP2.kept hbr2
    have HROWT4 : Hid _ := (hbr2.block w2.heap.size (by omega)).trans ((hb4.block w2.heap.size (by simp; omega)).trans HROWT.out)
    have HROWR4 : Hid _ := (hbr2.block w3.heap.size (by omega)).trans hrowr
    have e0 := cell_of_row _ _ 0 _ _ _ HROWR4.out
    have e1 := cell_of_row _ _ 1 _ _ _ HROWR4.out
    have r0 : (w4.alloc (.cells #[.slice fa2 L.length fc2, .slice pa2 L.length pc2] 60)).cell? ⟨w3.heap.size, 0, none⟩ = some (.slice fa L.length fc) := e0
    have r1 : (w4.alloc (.cells #[.slice fa2 L.length fc2, .slice pa2 L.length pc2] 60)).cell? ⟨w3.heap.size, 1, none⟩ = some (.slice pa L.length pc) := e1
    have hend := ended_ring HK.out g2 c2 ps _ _ _ HEA4.out HF4.out HP4.out
    have HEND : Hid _ := hend
    clear hend hbr2 hrowr hF2 hP2 hb4 e0 e1 HCH2 HEA3 HW3 HF3 HP3 HROWT
    go_wp2_with fail
    refine Calls.mono HEND.out ?_
    rintro r w5 ⟨g5, c5, rfl, hA5, hb5⟩
    have hs5 : w4.heap.size + 1 ≤ w5.heap.size := by have := hb5.size; simpa using this
    have HBB5 : Hid _ := HBB4.out.trans (hb5.mono HBB4.out.size)
    have HROWS5 : Hid (w5.heap[w4.heap.size]? = some (.cells #[.slice fa2 L.length fc2, .slice pa2 L.length pc2] 60 (0, 0))) := (hb5.block _ (by simp)).trans (heap_alloc_new w4 _)
    have HROWT5 : Hid _ := (hb5.block w2.heap.size (by simp; omega)).trans HROWT4.out
    have HROWR5 : Hid _ := (hb5.block w3.heap.size (by simp; omega)).trans HROWR4.out
    have HEA5 : Hid _ := EArr.kept HEA4.out hb5
    have HW5 : Hid _ := Rd4.span HW4.out (Span.of_below hb5 (by simp; omega))
    have HF5 : Hid _ := RdZ.kept HF4.out hb5
    have HP5 : Hid _ := RdZ.kept HP4.out hb5
    have HG5 : Hid _ := RdZ.kept HG4.out hb5
    have HQ5 : Hid _ := RdZ.kept HQ4.out hb5
    have s0 : w5.cell? ⟨w4.heap.size, 0, none⟩ = some (.slice fa2 L.length fc2) := by rw [cell_of_row _ _ 0 _ _ _ HROWS5.out]; rfl
    have s1 : w5.cell? ⟨w4.heap.size, 1, none⟩ = some (.slice pa2 L.length pc2) := by rw [cell_of_row _ _ 1 _ _ _ HROWS5.out]; rfl
    have hend2 := ended_ring HK.out g2 c2 qs _ _ w5 HEA5.out HG5.out HQ5.out
    have HEND2 : Hid _ := hend2
    have HA5 : Hid _ := hA5
    clear hend2 hb5 hA5 r0 r1 HEND HEA4 HW4 HF4 HP4 HG4 HQ4 HROWT4 HROWR4
    go_wp2_with fail
    refine Calls.mono HEND2.out ?_
    rintro r w6 ⟨g6, c6, rfl, hA6, hb6⟩
    have hs6 := hb6.size
    have HBB6 : Hid _ := HBB5.out.trans (hb6.mono HBB5.out.size)
    have HROWT6 : Hid _ := (hb6.block w2.heap.size (by omega)).trans HROWT5.out
    have HROWR6 : Hid _ := (hb6.block w3.heap.size (by omega)).trans HROWR5.out
    have HROWS6 : Hid _ := (hb6.block w4.heap.size (by omega)).trans HROWS5.out
    have HW6 : Hid _ := Rd4.span HW5.out (Span.of_below hb6 (by omega))
    have HF6 : Hid _ := RdZ.kept HF5.out hb6
    have HP6 : Hid _ := RdZ.kept HP5.out hb6
    have HG6 : Hid _ := RdZ.kept HG5.out hb6
    have HQ6 : Hid _ := RdZ.kept HQ5.out hb6
    have HA56 : Hid _ := Arr.kept HA5.out hb6
    have t0 : w6.cell? ⟨w2.heap.size, 0, none⟩ = some (.string nv) := by rw [cell_of_row _ _ 0 _ _ _ HROWT6.out]; rfl
    have t1 : w6.cell? ⟨w2.heap.size, 1, none⟩ = some (.slice ca cn cc) := by rw [cell_of_row _ _ 1 _ _ _ HROWT6.out]; rfl
    have t2 : w6.cell? ⟨w2.heap.size, 2, none⟩ = some (.slice wa wn wc) := by rw [cell_of_row _ _ 2 _ _ _ HROWT6.out]; rfl
    have hmet := met_ring HK.out ps nv ca cn cc g5 c5 (.slice wa wn wc) w6 HCN.out (want_of HW6.out (by omega)) HA56.out
    have HMET : Hid _ := hmet
    have HA6 : Hid _ := hA6
    clear hmet hb6 hA6 s0 s1 HEND2 HEA5 HW5 HF5 HP5 HG5 HQ5 HROWT5 HROWR5 HROWS5 HA5
    cases hm1 : metS (L.countP lT) (wantOf L) (endTo (eventsL L) (FR L ps) (PL L ps) (L.countP lT) L.length)
    · rw [hm1] at HMET
      go_wp2_with (go_at_call 28; refine Calls.mono HMET.out ?_; rintro r w7 ⟨rfl, hb7⟩; have HB7 : Hid (Below w.heap.size w w7) := HBB6.out.trans (hb7.mono HBB6.out.size); clear hb7)
      go_ret
      exact ⟨rfl, HB7.out⟩
    · rw [hm1] at HMET
      have HMET2 : Hid (∀ w7, Below w6.heap.size w6 w7 → Calls Tryd.prog 28 #[.agg #[.string nv, .slice ca cn cc, .slice wa wn wc], .slice (some ⟨g6, 0, none⟩) (L.countP lT * 16 + 16) c6] w7 fun r w' => r = .returned (.bool (metS (L.countP lT) (wantOf L) (endTo (eventsL L) (FR L qs) (PL L qs) (L.countP lT) L.length))) ∧ Below w7.heap.size w7 w') := by
        intro w7 hb7
        have hs7 := hb7.size
        exact met_ring HK.out qs nv ca cn cc g6 c6 (.slice wa wn wc) w7 HCN.out (want_of (Rd4.span HW6.out (Span.of_below hb7 (by omega))) (by omega)) (Arr.kept HA6.out hb7)
      cases hm2 : metS (L.countP lT) (wantOf L) (endTo (eventsL L) (FR L qs) (PL L qs) (L.countP lT) L.length)
      · rw [hm2] at HMET2
        go_wp2_with fail
        refine Calls.mono HMET.out ?_
        rintro r w7 ⟨rfl, hb7⟩
        have u0 := (hb7.cell (p := ⟨w2.heap.size, 0, none⟩) (by dsimp only; omega)).trans t0
        have u1 := (hb7.cell (p := ⟨w2.heap.size, 1, none⟩) (by dsimp only; omega)).trans t1
        have u2 := (hb7.cell (p := ⟨w2.heap.size, 2, none⟩) (by dsimp only; omega)).trans t2
        have HM2 : Hid _ := HMET2.out w7 hb7
        have HB7 : Hid (Below w.heap.size w w7) := HBB6.out.trans (hb7.mono HBB6.out.size)
        clear t0 t1 t2 hb7 HMET
        go_wp2_with (go_at_call 28; refine Calls.mono HM2.out ?_; rintro r w8 ⟨rfl, hb8⟩; have HB8 : Hid (Below w.heap.size w w8) := HB7.out.trans (hb8.mono HB7.out.size); clear hb8)
        go_ret
        exact ⟨rfl, HB8.out⟩
      · rw [hm2] at HMET2
        obtain ⟨hfe, hpe⟩ := frm_same (HON.out hm1 hm2)
        rw [hfe] at HG6
        rw [hpe] at HQ6
        go_wp2_with fail
        refine Calls.mono HMET.out ?_
        rintro r w7 ⟨rfl, hb7⟩
        have u0 := (hb7.cell (p := ⟨w2.heap.size, 0, none⟩) (by dsimp only; omega)).trans t0
        have u1 := (hb7.cell (p := ⟨w2.heap.size, 1, none⟩) (by dsimp only; omega)).trans t1
        have u2 := (hb7.cell (p := ⟨w2.heap.size, 2, none⟩) (by dsimp only; omega)).trans t2
        have HM2 : Hid _ := HMET2.out w7 hb7
        have HB7 : Hid (Below w.heap.size w w7) := HBB6.out.trans (hb7.mono HBB6.out.size)
        have hs7 := hb7.size
        have HBX : Hid _ := hb7
        clear t0 t1 t2 hb7 HMET
        go_wp2_with fail
        refine Calls.mono HM2.out ?_
        rintro r w8 ⟨rfl, hb8⟩
        have HB8 : Hid (Below w.heap.size w w8) := HB7.out.trans (hb8.mono HB7.out.size)
        have hb68 : Below w6.heap.size w6 w8 := HBX.out.trans (hb8.mono hs7)
        have hs8 := hb68.size
        have HROWR8 : Hid _ := (hb68.block w3.heap.size (by omega)).trans HROWR6.out
        have HROWS8 : Hid _ := (hb68.block w4.heap.size (by omega)).trans HROWS6.out
        have a0 : w8.cell? ⟨w3.heap.size, 0, none⟩ = some (.slice fa L.length fc) := by rw [cell_of_row _ _ 0 _ _ _ HROWR8.out]; rfl
        have a1 : w8.cell? ⟨w3.heap.size, 1, none⟩ = some (.slice pa L.length pc) := by rw [cell_of_row _ _ 1 _ _ _ HROWR8.out]; rfl
        have b0 : w8.cell? ⟨w4.heap.size, 0, none⟩ = some (.slice fa2 L.length fc2) := by rw [cell_of_row _ _ 0 _ _ _ HROWS8.out]; rfl
        have b1 : w8.cell? ⟨w4.heap.size, 1, none⟩ = some (.slice pa2 L.length pc2) := by rw [cell_of_row _ _ 1 _ _ _ HROWS8.out]; rfl
        have hfl : (frmTo (eventsL L) ps L.length).length = L.length := by simp [frmTo]
        have hpl : (plcTo (eventsL L) ps L.length).length = L.length := by simp [plcTo]
        have hsi := sameInts_any (frmTo (eventsL L) ps L.length) (.slice fa L.length fc) (.slice fa2 L.length fc2) L.length w8 hfl (RdZ.kept HF6.out hb68) (RdZ.kept HG6.out hb68) hL16
        have HSI : Hid _ := hsi
        have HSJ : Hid (∀ w9, Below w8.heap.size w8 w9 → Calls Tryd.prog 30 #[.slice pa L.length pc, .slice pa2 L.length pc2] w9 fun r w' => r = .returned (.bool true) ∧ Below w9.heap.size w9 w') := fun w9 hb9 =>
          sameInts_any (plcTo (eventsL L) ps L.length) (.slice pa L.length pc) (.slice pa2 L.length pc2) L.length w9 hpl ((RdZ.kept HP6.out hb68).kept hb9) ((RdZ.kept HQ6.out hb68).kept hb9) hL16
        clear hsi hb68 hb8 u0 u1 u2 HM2 HMET2 hfl hpl hfe hpe hm1 hm2 HON
        go_wp2_with fail
        refine Calls.mono HSI.out ?_
        rintro r w9 ⟨rfl, hb9⟩
        have d0 := (hb9.cell (p := ⟨w3.heap.size, 1, none⟩) (by dsimp only; omega)).trans a1
        have d1 := (hb9.cell (p := ⟨w4.heap.size, 1, none⟩) (by dsimp only; omega)).trans b1
        have HS2 : Hid _ := HSJ.out w9 hb9
        have HB9 : Hid (Below w.heap.size w w9) := HB8.out.trans (hb9.mono HB8.out.size)
        clear a0 a1 b0 b1 hb9 HSI HSJ
        go_wp2_with fail
        refine Calls.mono HS2.out ?_
        rintro r w10 ⟨rfl, hb10⟩
        have HB10 : Hid (Below w.heap.size w w10) := HB9.out.trans (hb10.mono HB9.out.size)
        clear hb10
        go_wp2
        go_ret
        exact ⟨rfl, HB10.out⟩
  · have h0i : (((rd s.data.toList).1 : Int) == 0) = false := by rw [beq_eq_false_iff_ne]; omega
    have hv := hno h0
    subst hv
    clear hyes hno h0
    go_wp2
    go_ret
    exact ⟨rfl, hb1⟩

end Go.Proofs.YtokfiflflcfidaaDoor
