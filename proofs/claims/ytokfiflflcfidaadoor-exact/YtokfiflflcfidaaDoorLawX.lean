import Derived.Test.YtokfiflflcfidaaDoorRows
import Derived.Test.YtokfiflflcfidaaDoorLawF
import Derived.Test.YtokfiflflcfidaaDoorQtoR
import Derived.Test.YtokfiflflcfidaaDoorExN
import Derived.Test.YtokfiflflcfidaaDoorChzY
import Derived.WalkKit
import Derived.WalkSpells
import Derived.WalkLawsBesides
import Derived.Deep.QuietTactic
import Derived.BigQuiet
namespace Go.Proofs.YtokfiflflcfidaaDoor
open Go.RowKit

/-- what is known of a cycle's ring -/
structure RingK (L : List Nat) : Prop where
  ring : Ring L
  last : lT (L[L.length - 1]?.getD 0) = true
  h16 : L.length ≤ 16
theorem RingK.thr {L : List Nat} (h : RingK L) : ((eventsL L)[(eventsL L).length - 1]?.getD ev0).th + 1 = L.countP lT := by
  have hL := h.ring.toLay
  have hp := hL.pos
  rw [events_length, E_th hL (by omega)]
  have h1 := thr_succ L (L.length - 1) (by omega)
  have h2 : thrOf L L.length = L.countP lT := by unfold thrOf; rw [List.take_length]
  rw [show L.length - 1 + 1 = L.length from by omega, h2, h.last] at h1
  simp [b1] at h1
  omega

/-- a choice in memory -/
theorem choose_any {L : List Nat} (hK : RingK L) (b cap : Nat) (ps : List Int) (pv : Value) (w : World) (hA : EArr w b (eventsL L)) (hP : ScrRd w pv ps) :
    Calls Tryd.prog 26 #[.slice (some ⟨b, 0, none⟩) L.length cap, pv] w fun r w' => ∃ fa fc pa pc, r = .returned (.agg #[.slice fa L.length fc, .slice pa L.length pc]) ∧ RdZ w' (.slice fa L.length fc) (frmTo (eventsL L) ps L.length) ∧ RdZ w' (.slice pa L.length pc) (plcTo (eventsL L) ps L.length) ∧ Below w.heap.size w w' := by
  have hL := hK.ring.toLay
  have h := chosen_any (eventsL L) b cap ps pv w hA hP (by rw [events_length]; have := hK.h16; omega) (fun i hi => by
    rw [events_length] at hi
    rw [E_ce hL hi]
    have h1 := cell_lt L hL i
    have h2 : L.countP lC ≤ L.length := List.countP_le_length
    have := hK.h16
    omega)
  rw [events_length] at h
  refine h.mono ?_
  rintro r w' ⟨fv, pl, rfl, h1, h2, h3⟩
  have h1' := h1
  have h2' := h2
  obtain ⟨fa, fc, hf, _⟩ := h1
  obtain ⟨pa, pc, hp, _⟩ := h2
  have e1 : (frmTo (eventsL L) ps L.length).length = L.length := by simp [frmTo]
  have e2 : (plcTo (eventsL L) ps L.length).length = L.length := by simp [plcTo]
  rw [e1] at hf
  rw [e2] at hp
  subst hf
  subst hp
  exact ⟨fa, fc, pa, pc, rfl, h1', h2', h3⟩
theorem ended_ring {L : List Nat} (hK : RingK L) (b cap : Nat) (ps : List Int) (fv pv : Value) (w : World) (hA : EArr w b (eventsL L)) (hF : RdZ w fv (frmTo (eventsL L) ps L.length)) (hP : RdZ w pv (plcTo (eventsL L) ps L.length)) :
    Calls Tryd.prog 27 #[.slice (some ⟨b, 0, none⟩) L.length cap, .agg #[fv, pv]] w fun r w' => ∃ g c, r = .returned (.slice (some ⟨g, 0, none⟩) (L.countP lT * 16 + 16) c) ∧ Arr w' g 0 (endTo (eventsL L) (FR L ps) (PL L ps) (L.countP lT) L.length) ∧ Below w.heap.size w w' := by
  have hL := hK.ring.toLay
  have h16 := hK.h16
  have hCle : L.countP lC ≤ L.length := List.countP_le_length
  have hTle : L.countP lT ≤ L.length := List.countP_le_length
  have h := ended_any (eventsL L) b cap (FR L ps) (PL L ps) fv pv (L.countP lT) w hA (by rw [events_length]; exact hL.pos) (by rw [events_length]; omega) hK.thr (by omega)
    (fun i hi => by rw [events_length] at hi; rw [E_th hL hi]; exact thr_lt L hL.pos hK.last hi)
    (fun i hi => by rw [events_length] at hi; rw [E_ce hL hi]; have := cell_lt L hL i; omega)
    (fun i hi => by rw [events_length] at hi; rw [E_va hL hi]; have h1 := va_le L hL hi; have h2 := hK.ring.few (cellOf L i); omega)
    (by rw [events_length]; exact hF) (by rw [events_length]; exact hP)
    (fun i hi => by rw [events_length] at hi ⊢; exact FR_le hL ps i hi)
    (fun i hi => by
      rw [events_length] at hi
      cases hk : kd L i
      · rw [PL_read hL ps i hi hk]; omega
      · have h1 := PL_lt hL ps i hi hk; have h2 := hK.ring.few (cellOf L i); omega)
  rw [events_length] at h
  exact h
theorem round_ring {L : List Nat} (hK : RingK L) (b cap : Nat) (ps : List Int) (fv pv : Value) (w : World) (hA : EArr w b (eventsL L)) (hF : RdZ w fv (frmTo (eventsL L) ps L.length)) (hP : RdZ w pv (plcTo (eventsL L) ps L.length)) :
    Calls Tryd.prog 29 #[.slice (some ⟨b, 0, none⟩) L.length cap, .agg #[fv, pv]] w fun r w' => r = .returned (.bool (rndB (eventsL L) (FR L ps) (PL L ps))) ∧ Below w.heap.size w w' := by
  have hL := hK.ring.toLay
  have h16 := hK.h16
  have h := round_any (eventsL L) b cap (FR L ps) (PL L ps) fv pv w hA (by rw [events_length]; exact hL.pos) (by rw [events_length]; omega)
    (fun i hi => by rw [events_length] at hi; rw [E_af hL hi]; exact getD_lt hK.ring.small i)
    (by rw [events_length]; exact hF) (by rw [events_length]; exact hP)
    (fun i hi => by rw [events_length] at hi ⊢; exact FR_le hL ps i hi)
  rw [events_length] at h
  exact h
theorem met_ring {L : List Nat} (hK : RingK L) (ps : List Int) (nv : ByteArray) (ca : Option Addr) (cn cc eb ec : Nat) (wv : Value) (w : World) (hcn : cn = L.countP lT) (hW : WantRd w wv (wantOf L)) (hE : Arr w eb 0 (endTo (eventsL L) (FR L ps) (PL L ps) (L.countP lT) L.length)) :
    Calls Tryd.prog 28 #[.agg #[.string nv, .slice ca cn cc, wv], .slice (some ⟨eb, 0, none⟩) (L.countP lT * 16 + 16) ec] w fun r w' => r = .returned (.bool (metS (L.countP lT) (wantOf L) (endTo (eventsL L) (FR L ps) (PL L ps) (L.countP lT) L.length))) ∧ Below w.heap.size w w' := by
  have h16 := hK.h16
  have hTle : L.countP lT ≤ L.length := List.countP_le_length
  have hS := ring_sndW L hK.ring hK.h16 hK.last
  rw [codeOf_length] at hS
  have hel := endTo_length (eventsL L) (FR L ps) (PL L ps) (L.countP lT) L.length
  have h := met_any (L.countP lT) (wantOf L) (endTo (eventsL L) (FR L ps) (PL L ps) (L.countP lT) L.length) nv ca cc eb 0 ec wv w hW hS hE hel (by omega)
  rw [hel] at h
  rw [hcn]
  exact h

theorem cn_of {lo hi : Nat} {w : World} {ca : Option Addr} {cn cc : Nat} {L : List Nat} (h : Rd44 lo hi w (.slice ca cn cc) (codeQ L)) : cn = L.countP lT := by
  obtain ⟨a, cap, he, _⟩ := h
  simp only [Value.slice.injEq] at he
  rw [he.2.1]
  simp [codeQ, codeOf]

set_option maxRecDepth 100000 in
set_option maxHeartbeats 1600000 in
theorem exact_any (s : ByteArray) (hs : s.size ≤ 9223372036854775807) (sv : Value) (ps : List Int) (w : World) (hSc : ScrRd w sv ps) (hT : TabN w) (hTR : TabR w) :
    Calls Tryd.prog 9 #[.string s, sv] w fun r w' => r = .returned (.bool true) ∧ Below w.heap.size w w' := by
  have HSC : Hid _ := hSc
  obtain ⟨sa, sc, rfl, hsc⟩ := hSc
  clear hsc
  go_enter Tryd.func9, Tryd.ntmps9
  go_wp2_with fail
  refine (read_any s hs _ hTR).mono ?_
  rintro r w1 ⟨v, rfl, hyes, hno, hb1⟩
  by_cases h0 : (rd s.data.toList).1 = 0
  · obtain ⟨g, go, gc, rfl, hgl, hG⟩ := hyes h0
    obtain ⟨hR, hlast, h16, hbl, hrl, hE, hpos⟩ := rd_ring h0
    have hbd := built_any s hs g go gc w1 hG h0 (hT.kept hb1) (hTR.kept hb1)
    have hbe : (baseL s.data.toList).length = (edgesOf s.data.toList).length := hbl
    rw [hbe] at hbd
    have HBD : Hid _ := hbd
    have HK : Hid (RingK (ringL s.data.toList)) := ⟨hR, hlast, h16⟩
    have HEX : Hid _ := exact_met hR h16 hlast ps
    rw [h0]
    generalize ringL s.data.toList = L at *
    clear hyes hno hbd hR hlast h16 hbl hrl hE hbe hgl h0 hpos
    go_wp2_with fail
    refine Calls.mono HBD.out ?_
    rintro r w2 ⟨nv, ca, cn, cc, wa, wn, wc, g2, c2, rfl, hC, hWt, hEA, hg2, hb2⟩
    have HCN : Hid _ := cn_of hC
    have hbb : Below w.heap.size w w2 := hb1.trans (hb2.mono hb1.size)
    have hbt : Below w2.heap.size w2 (w2.alloc (.cells #[.string nv, .slice ca cn cc, .slice wa wn wc] 52)) := (Below.refl _ _).alloc (Nat.le_refl _) _
    have hbb2 : Below w.heap.size w (w2.alloc (.cells #[.string nv, .slice ca cn cc, .slice wa wn wc] 52)) := hbb.trans (hbt.mono hbb.size)
    have hch := choose_any HK.out g2 c2 ps (.slice sa ps.length sc) _ (hEA.kept hbt) (ScrRd.kept HSC.out hbb2)
    have HCH : Hid _ := hch
    have HW2 : Hid _ := Rd4.span hWt (Span.of_below hbt (Nat.le_refl _))
    have HEA2 : Hid _ := hEA.kept hbt
    have HBB2 : Hid _ := hbb2
    clear hch hbt hC hWt hEA hbb2 hbb hb2
    go_wp2_with fail
    refine Calls.mono HCH.out ?_
    rintro r w3 ⟨fa, fc, pa, pc, rfl, hF, hP, hb3⟩
    have hs3 : w2.heap.size + 1 ≤ w3.heap.size := by have := hb3.size; simpa using this
    have hrowt : w3.heap[w2.heap.size]? = some (.cells #[.string nv, .slice ca cn cc, .slice wa wn wc] 52 (0, 0)) := (hb3.block _ (by simp)).trans (heap_alloc_new w2 _)
    have hbr : Below w3.heap.size w3 (w3.alloc (.cells #[.slice fa L.length fc, .slice pa L.length pc] 60)) := (Below.refl _ _).alloc (Nat.le_refl _) _
    have hEA3 := (EArr.kept HEA2.out hb3).kept hbr
    have hend := ended_ring HK.out g2 c2 ps _ _ _ hEA3 (hF.kept hbr) (hP.kept hbr)
    have HEND : Hid _ := hend
    have HW3 : Hid _ := Rd4.span (Rd4.span HW2.out (Span.of_below hb3 (by simp))) (Span.of_below hbr (by omega))
    have HBB3 : Hid _ := (HBB2.out.trans (hb3.mono HBB2.out.size)).trans (hbr.mono (Nat.le_trans HBB2.out.size hb3.size))
    have HEA3 : Hid _ := hEA3
    have HF3 : Hid _ := hF.kept hbr
    have HP3 : Hid _ := hP.kept hbr
    have HROWT : Hid _ := (hbr.block w2.heap.size (by omega)).trans hrowt
    clear hend hbr hEA3 hF hP hrowt HEA2 HCH hb3
    go_wp2_with fail
    refine Calls.mono HEND.out ?_
    rintro r w4 ⟨g4, c4, rfl, hA4, hb4⟩
    have hs4 : w3.heap.size + 1 ≤ w4.heap.size := by have := hb4.size; simpa using this
    have hrow4 := (hb4.block w2.heap.size (by simp; omega)).trans HROWT.out
    have hrowr : w4.heap[w3.heap.size]? = some (.cells #[.slice fa L.length fc, .slice pa L.length pc] 60 (0, 0)) := (hb4.block _ (by simp)).trans (heap_alloc_new w3 _)
    have t0 : w4.cell? ⟨w2.heap.size, 0, none⟩ = some (.string nv) := by rw [cell_of_row _ _ 0 _ _ _ hrow4]; rfl
    have t1 : w4.cell? ⟨w2.heap.size, 1, none⟩ = some (.slice ca cn cc) := by rw [cell_of_row _ _ 1 _ _ _ hrow4]; rfl
    have t2 : w4.cell? ⟨w2.heap.size, 2, none⟩ = some (.slice wa wn wc) := by rw [cell_of_row _ _ 2 _ _ _ hrow4]; rfl
    have hW4 := Rd4.span HW3.out (Span.of_below hb4 (by simp; omega))
    have hmet := met_ring HK.out ps nv ca cn cc g4 c4 (.slice wa wn wc) w4 HCN.out (want_of hW4 (by omega)) hA4
    have HMET : Hid _ := hmet
    have HBB4 : Hid _ := HBB3.out.trans (hb4.mono HBB3.out.size)
    have HEA4 : Hid _ := EArr.kept HEA3.out hb4
    have HF4 : Hid _ := RdZ.kept HF3.out hb4
    have HP4 : Hid _ := RdZ.kept HP3.out hb4
    have HROWR : Hid _ := hrowr
    clear hmet hW4 hrow4 hrowr hb4 hA4 HEND HW3 HEA3 HF3 HP3
    go_wp2_with fail
    refine Calls.mono HMET.out ?_
    rintro r w5 ⟨rfl, hb5⟩
    have hrow5 := (hb5.block w3.heap.size (by omega)).trans HROWR.out
    have r0 : w5.cell? ⟨w3.heap.size, 0, none⟩ = some (.slice fa L.length fc) := by rw [cell_of_row _ _ 0 _ _ _ hrow5]; rfl
    have r1 : w5.cell? ⟨w3.heap.size, 1, none⟩ = some (.slice pa L.length pc) := by rw [cell_of_row _ _ 1 _ _ _ hrow5]; rfl
    have hrnd := round_ring HK.out g2 c2 ps _ _ w5 (EArr.kept HEA4.out hb5) (RdZ.kept HF4.out hb5) (RdZ.kept HP4.out hb5)
    have HRND : Hid _ := hrnd
    have HBB5 : Hid (Below w.heap.size w w5) := HBB4.out.trans (hb5.mono HBB4.out.size)
    rw [HEX.out]
    clear hrnd hrow5 hb5 t0 t1 t2 HMET
    go_wp2_with fail
    refine Calls.mono HRND.out ?_
    rintro r w6 ⟨rfl, hb6⟩
    have HBB6 : Hid (Below w.heap.size w w6) := HBB5.out.trans (hb6.mono HBB5.out.size)
    clear hb6 r0 r1
    generalize rndB (eventsL L) (FR L ps) (PL L ps) = x at *
    cases x
    all_goals
      go_wp2
      go_ret
      exact ⟨rfl, HBB6.out⟩
  · have h0i : (((rd s.data.toList).1 : Int) == 0) = false := by rw [beq_eq_false_iff_ne]; omega
    have hv := hno h0
    subst hv
    clear hyes hno h0
    go_wp2
    go_ret
    exact ⟨rfl, hb1⟩

end Go.Proofs.YtokfiflflcfidaaDoor
