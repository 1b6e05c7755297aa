import Derived.Test.YtokfiflflcfidabRows
import Derived.Test.YtokfiflflcfidabLvM
import Derived.Test.YtokfiflflcfidabGivB
import Derived.Test.YtokfiflflcfidabSamB
import Derived.Test.YtokfiflflcfidabPrtX
import Derived.Test.YtokfiflflcfidabPPy
import Derived.WalkKit
import Derived.WalkSpells
import Derived.WalkLawsBesides
namespace Go.Proofs.Ytokfiflflcfidab
open Go.RowKit

theorem numL_any (e : Int) (w : World) : Calls Try.prog 9 #[.int .i64 e] w fun r w' => r = .returned (.int .i64 e) ∧ w' = w := by
  go_enter Try.func9, Try.ntmps9
  go_wp2
  go_ret
  exact ⟨rfl, rfl⟩
theorem own_kept {w w' : World} {base T : Nat} {v : Value} {l : List Nat} (h : Own w base T v l) (hb : Below w.heap.size w w') : Own w' base T v l := ownsRow_kept h hb

set_option maxRecDepth 100000 in
set_option maxHeartbeats 3200000 in
/-- Leaves, over what Print and Play answer -/
theorem leaves_core (nv : ByteArray) (cv wv sv : Value) (code : List (List Q4)) (want : List Q4) (script : List Int) (model : Int) (w : World) (hC : Rd44 0 w.heap.size w cv code) (hW : Rd4 0 w.heap.size w wv want) (hnv : nv.size ≤ 9223372036854775807)
    (hSc : ScrRd w sv script) (hsl : script.length + 1 ≤ 17592186044416)
    (b1 : code.length ≤ 5864062014700) (b2 : ∀ k : Nat, (code[k]?.getD []).length ≤ 4398046511000) (b3 : want.length ≤ 4398046511000)
    (pb : ByteArray) (ep : Int) (L : List Nat) (met : Bool) (er : Int) (sd : Bool) (hL : L.length ≤ 1000000) (hsd : sndT nv.data.toList code want = sd) (hpb : (pb.toList != []) = sd)
    (hPR : ∀ (wx : World) (cv' wv' : Value) (lo hi : Nat), Rd44 lo hi wx cv' code → Rd4 lo hi wx wv' want → hi ≤ wx.heap.size → Calls Try.prog 15 #[.agg #[.string nv, cv', wv']] wx fun r w' => r = .returned (.tuple #[.string pb, .int .i64 ep]) ∧ Below wx.heap.size wx w')
    (hPL : ∀ (wx : World) (cv' wv' lv : Value) (lo hi : Nat), Rd44 lo hi wx cv' code → Rd4 lo hi wx wv' want → hi ≤ wx.heap.size → ScrRd wx lv script → Calls Try.prog 8 #[.agg #[.string nv, cv', wv'], .int .i64 model, lv] wx fun r w' => ∃ v, r = .returned (.tuple #[v, .bool met, .int .i64 er]) ∧ Own w' wx.heap.size 3 v L ∧ Below wx.heap.size wx w') :
    Calls Try.prog 5 #[.agg #[.string nv, cv, wv], .int .i64 model, sv] w fun r w' => r = .returned (.bool true) ∧ Below w.heap.size w w' := by
  have HC : Hid (Rd44 0 w.heap.size w cv code) := hC
  have HW : Hid (Rd4 0 w.heap.size w wv want) := hW
  obtain ⟨ca, cc, rfl, _⟩ := id hC
  obtain ⟨wa, wc, rfl, _⟩ := id hW
  have HSC : Hid (ScrRd w sv script) := hSc
  obtain ⟨sa, sc, rfl, hscr⟩ := id hSc
  have HSCR : Hid _ := hscr
  have HPR : Hid _ := hPR
  have HPL : Hid _ := hPL
  have HBO : Hid (code.length ≤ 5864062014700 ∧ (∀ k : Nat, (code[k]?.getD []).length ≤ 4398046511000) ∧ want.length ≤ 4398046511000) := ⟨b1, b2, b3⟩
  have hb0 : Below w.heap.size w (w.alloc (.cells #[.string nv, .slice ca code.length cc, .slice wa want.length wc] 25)) := (Below.refl _ _).alloc (Nat.le_refl _) _
  have HB0 : Hid _ := hb0
  have HM : Hid _ := made_any nv (.slice ca code.length cc) (.slice wa want.length wc) code want 0 w.heap.size _ (Rd44.span HC.out (Span.of_below hb0 (Nat.le_refl _))) (Rd4.span HW.out (Span.of_below hb0 (Nat.le_refl _))) hb0.size b1 b2 b3
  have HSD : Hid _ := hsd
  have HPBE : Hid (pb.toList.isEmpty = !sd) := by show _ = _; rw [← hpb]; cases pb.toList <;> rfl
  obtain ⟨cn, hcn⟩ : ∃ n, code.length = n := ⟨_, rfl⟩
  obtain ⟨wn, hwn⟩ : ∃ n, want.length = n := ⟨_, rfl⟩
  obtain ⟨sn, hsn⟩ : ∃ n, script.length = n := ⟨_, rfl⟩
  have HSN : Hid _ := hsn
  have HLN : Hid _ := hL
  rw [hcn] at HC HB0 HM ⊢
  rw [hwn] at HW HB0 HM ⊢
  rw [hsn] at HSC HSCR hsl ⊢
  clear hC hW hSc b1 b2 b3 hb0 hcn hwn hsn hscr hPR hPL hsd hL
  go_enter Try.func5, Try.ntmps5
  go_wp2_with fail
  refine Calls.mono HM.out ?_
  rintro r w1 ⟨cv', wv', rfl, hC1, hW1, hb1⟩
  obtain ⟨ca', cc', hcv', _⟩ := id hC1
  obtain ⟨wa', wc', hwv', _⟩ := id hW1
  obtain ⟨cn', hcn'⟩ : ∃ n, code.length = n := ⟨_, rfl⟩
  obtain ⟨wn', hwn'⟩ : ∃ n, want.length = n := ⟨_, rfl⟩
  rw [hcn'] at hcv'
  rw [hwn'] at hwv'
  subst hcv' hwv'
  have hw1 : w.heap.size < w1.heap.size := by have := hb1.size; simp at this; omega
  have ht1 : w1.heap[w.heap.size]? = some (.cells #[.string nv, .slice ca cn cc, .slice wa wn wc] 25 (0, 0)) := (hb1.block _ (by simp)).trans (heap_alloc_new w _)
  have hB1 : Below w.heap.size w w1 := HB0.out.trans (hb1.mono HB0.out.size)
  have hba : Below w1.heap.size w1 (w1.alloc (.cells #[.string nv, .slice ca' cn' cc', .slice wa' wn' wc'] 31)) := (Below.refl _ _).alloc (Nat.le_refl _) _
  have hsa : (w1.alloc (.cells #[.string nv, .slice ca' cn' cc', .slice wa' wn' wc'] 31)).heap.size = w1.heap.size + 1 := by simp
  have HLI : Hid (∀ w2 lv, Below (w1.heap.size + 1) (w1.alloc (.cells #[.string nv, .slice ca' cn' cc', .slice wa' wn' wc'] 31)) w2 → ScrRd w2 lv script → LInv 25 31 w2.heap.size w w2 nv (.slice ca cn cc) (.slice wa wn wc) w1.heap.size (.slice ca' cn' cc') (.slice wa' wn' wc') code want lv script) := fun w2 lv hb2 hl => by
    have hb12 : Below w1.heap.size w1 w2 := hba.trans (hb2.mono (Nat.le_succ _))
    have hsz : w1.heap.size + 1 ≤ w2.heap.size := by have := hb2.size; rw [hsa] at this; exact this
    exact ⟨hB1.trans (hb12.mono hB1.size), Nat.le_refl _, by omega, (hb12.block _ hw1).trans ht1, by omega, (hb2.block _ (Nat.lt_succ_self _)).trans (heap_alloc_new w1 _), (Rd44.span hC1 (Span.of_below hb12 (Nat.le_refl _))).mono (Nat.zero_le _) (Nat.le_refl _), (Rd4.span hW1 (Span.of_below hb12 (Nat.le_refl _))).mono (Nat.zero_le _) (Nat.le_refl _), hl.toB⟩
  have HSW : Hid (∀ w2, Below (w1.heap.size + 1) (w1.alloc (.cells #[.string nv, .slice ca' cn' cc', .slice wa' wn' wc'] 31)) w2 → Below w.heap.size w w2) := fun w2 hb2 => hB1.trans ((hba.trans (hb2.mono (Nat.le_succ _))).mono hB1.size)
  clear hC1 hW1 hb1 ht1 hB1 hba HM hcn' hwn'
  go_wp2
  go_loopw [8, 9] (fun v i wr => ∃ k : Nat, k ≤ sn ∧ i = .int .i64 k ∧ OwnZ wr (w1.heap.size + 1) 3 v (script.take k) ∧ Below (w1.heap.size + 1) (w1.alloc (.cells #[.string nv, .slice ca' cn' cc', .slice wa' wn' wc'] 31)) wr) (fun _ i _ => sn - (intOf i).toNat)
  case atStart => exact ⟨0, Nat.zero_le _, rfl, by rw [List.take_zero]; exact OwnZ.nil _ _ _, Below.refl _ _⟩
  case round =>
    obtain ⟨k, hk, rfl, hO, hb⟩ := hrel
    have HO : Hid (OwnZ wr (w1.heap.size + 1) 3 _ (script.take k)) := hO
    have HB : Hid (Below (w1.heap.size + 1) (w1.alloc (.cells #[.string nv, .slice ca' cn' cc', .slice wa' wn' wc'] 31)) wr) := hb
    have HSZ : Hid (w1.heap.size + 1 ≤ wr.heap.size) := by have := hb.size; rw [hsa] at this; exact this
    clear hO hb
    by_cases hlt : k < sn
    · obtain ⟨b, off, rfl, hbl, hc, _⟩ := HSCR.out k hlt
      have hcw := ((HSW.out _ HB.out).cell (p := ⟨b, off + k, none⟩) hbl).trans hc
      have HTK : Hid _ := take_snocZ script k (by rw [HSN.out]; exact hlt)
      have HPLN : Hid ((script.take k).length + 1 ≤ 17592186044416) := by show _ ≤ _; rw [List.length_take]; omega
      have hbw : b < wr.heap.size := by have := HSZ.out; omega
      clear hc
      generalize script[k]?.getD 0 = x at *
      go_wp2_with (at_builtin; refine wpList_pushZ rfl _ _ 26 rfl (w1.heap.size + 1) (w1.heap.size + 1) _ 3 Try.underlying26 Try.infoIntZ _ _ x (by rfl) (by rfl) HO.out HPLN.out HB.out (Nat.le_refl _) HSZ.out ?_; intro v2 w2 h2 hb2 _; have HO2 : Hid (OwnZ w2 (w1.heap.size + 1) 3 v2 (script.take k ++ [x])) := h2; have HB2 : Hid _ := hb2; clear h2 hb2 HO)
      go_roundw
      case rel => exact ⟨k + 1, by omega, by go_num, by rw [HTK.out]; exact HO2.out, HB2.out⟩
      case measure => simp [intOf]; omega
    · have HTA : Hid (script.take k = script) := List.take_of_length_le (by rw [HSN.out]; omega)
      rw [HTA.out] at HO
      have HI2 : Hid _ := HLI.out wr u8 HB.out (OwnZ.scr HO.out (fun i hi => by
        rw [HSN.out] at hi
        obtain ⟨_, _, _, _, _, h⟩ := HSCR.out i hi
        exact h))
      obtain ⟨la, lc, hlv⟩ := OwnZ.len HO.out
      rw [HSN.out] at hlv
      subst hlv
      obtain ⟨c0, c1, c2, huz⟩ := HI2.out.uc
      clear HO HTA HB HSZ HLI HSW HB0 hsa
      go_wp2_with fail
      refine Calls.mono (HPR.out _ _ _ 0 w1.heap.size HI2.out.C HI2.out.W HI2.out.ubs) ?_
      rintro r w3 ⟨rfl, hb3⟩
      have HI3 : Hid _ := HI2.out.kept hb3
      have HS23 : Hid (wr.heap.size ≤ w3.heap.size) := hb3.size
      clear c0 c1 c2 huz hb3
      obtain ⟨c0, c1, c2, huz⟩ := HI3.out.uc
      go_wp2_with fail
      refine Calls.mono (HPL.out _ _ _ _ 0 w1.heap.size HI3.out.C HI3.out.W HI3.out.ubs (HI3.out.L.rd HI3.out.hB)) ?_
      rintro r w4 ⟨va, rfl, hOa, hb4⟩
      have HI4 : Hid _ := HI3.out.kept hb4
      have HS34 : Hid (w3.heap.size ≤ w4.heap.size) := hb4.size
      clear c0 c1 c2 huz hb4
      obtain ⟨c0, c1, c2, huz⟩ := HI4.out.uc
      obtain ⟨aa, ac, hva, _⟩ := id (Own.numR hOa)
      obtain ⟨an, han⟩ : ∃ n, L.length = n := ⟨_, rfl⟩
      rw [han] at hva HLN
      have han6 := HLN.out
      subst hva
      have HOA : Hid (Own w4 w3.heap.size 3 (.slice aa an ac) L) := hOa
      have HAC4 : Hid (ACel 3 w3.heap.size w4.heap.size w4 aa an) := Own.acel hOa
      have HAN : Hid _ := han
      clear hOa han
      have HG : Hid _ := given_big nv (.slice ca' cn' cc') (.slice wa' wn' wc') code want 0 w1.heap.size w4 HI4.out.C HI4.out.W HI4.out.ubs HBO.out.1 HBO.out.2.1 HBO.out.2.2
      go_wp2_with fail
      refine Calls.mono HG.out ?_
      rintro r w5 ⟨cv5, wv5, rfl, hC5, hW5, hb5⟩
      obtain ⟨ca5, cc5, hcv5, _⟩ := id hC5
      obtain ⟨wa5, wc5, hwv5, _⟩ := id hW5
      obtain ⟨cn5, hcn5⟩ : ∃ n, code.length = n := ⟨_, rfl⟩
      obtain ⟨wn5, hwn5⟩ : ∃ n, want.length = n := ⟨_, rfl⟩
      rw [hcn5] at hcv5
      rw [hwn5] at hwv5
      subst hcv5 hwv5
      have HC5 : Hid (Rd44 w4.heap.size w5.heap.size w5 (.slice ca5 cn5 cc5) code) := hC5
      have HW5 : Hid (Rd4 w4.heap.size w5.heap.size w5 (.slice wa5 wn5 wc5) want) := hW5
      have hba5 : Below w5.heap.size w5 (w5.alloc (.cells #[.string nv, .slice ca5 cn5 cc5, .slice wa5 wn5 wc5] 25)) := (Below.refl _ _).alloc (Nat.le_refl _) _
      have HK5 : Hid (Below w4.heap.size w4 (w5.alloc (.cells #[.string nv, .slice ca5 cn5 cc5, .slice wa5 wn5 wc5] 25))) := hb5.trans (hba5.mono hb5.size)
      have HBA5 : Hid _ := hba5
      have HI5 : Hid _ := HI4.out.kept HK5.out
      have HROW5 : Hid ((w5.alloc (.cells #[.string nv, .slice ca5 cn5 cc5, .slice wa5 wn5 wc5] 25)).heap[w5.heap.size]? = some (.cells #[.string nv, .slice ca5 cn5 cc5, .slice wa5 wn5 wc5] 25 (0, 0))) := heap_alloc_new w5 _
      have d0 := (hb5.cell (p := ⟨w1.heap.size, 0, none⟩) huz).trans c0
      have d1 := (hb5.cell (p := ⟨w1.heap.size, 1, none⟩) huz).trans c1
      have d2 := (hb5.cell (p := ⟨w1.heap.size, 2, none⟩) huz).trans c2
      have hdz : w1.heap.size < w5.heap.size := by have := hb5.size; omega
      clear c0 c1 c2 huz hb5 hba5 hC5 hW5 hcn5 hwn5 HG
      go_wp2_with fail
      refine Calls.mono (HPL.out _ _ _ _ 0 w1.heap.size HI5.out.C HI5.out.W HI5.out.ubs (HI5.out.L.rd HI5.out.hB)) ?_
      rintro r w6 ⟨vb, rfl, hOb, hb6⟩
      have HI6 : Hid _ := HI5.out.kept hb6
      have HK6 : Hid (Below w4.heap.size w4 w6) := HK5.out.trans (hb6.mono HK5.out.size)
      have HV6 : Hid (Below w5.heap.size w5 w6) := HBA5.out.trans (hb6.mono HBA5.out.size)
      have HROW6 : Hid (w6.heap[w5.heap.size]? = some (.cells #[.string nv, .slice ca5 cn5 cc5, .slice wa5 wn5 wc5] 25 (0, 0))) := (hb6.block _ (Array.getElem?_eq_some_iff.1 HROW5.out).1).trans HROW5.out
      obtain ⟨ba, bc, hvb, _⟩ := id (Own.numR hOb)
      rw [HAN.out] at hvb
      subst hvb
      have HOB : Hid (Own w6 w4.heap.size 3 (.slice ba an bc) L) := ownsRow_rebase hOb HK5.out.size
      clear d0 d1 d2 hb6 hOb
      obtain ⟨c0, c1, c2, huz⟩ := HI6.out.uc
      go_wp2_with fail
      refine Calls.mono (HPR.out _ _ _ 0 w1.heap.size HI6.out.C HI6.out.W HI6.out.ubs) ?_
      rintro r w7 ⟨rfl, hb7⟩
      have HI7 : Hid _ := HI6.out.kept hb7
      have HK7 : Hid (Below w4.heap.size w4 w7) := HK6.out.trans (hb7.mono HK6.out.size)
      have HV7 : Hid (Below w5.heap.size w5 w7) := HV6.out.trans (hb7.mono HV6.out.size)
      have HROW7 : Hid (w7.heap[w5.heap.size]? = some (.cells #[.string nv, .slice ca5 cn5 cc5, .slice wa5 wn5 wc5] 25 (0, 0))) := (hb7.block _ (Array.getElem?_eq_some_iff.1 HROW6.out).1).trans HROW6.out
      have HOB7 : Hid (Own w7 w4.heap.size 3 (.slice ba an bc) L) := own_kept HOB.out hb7
      clear c0 c1 c2 huz hb7
      obtain ⟨c0, c1, c2, huz⟩ := HI7.out.tc
      have e0 : w7.cell? ⟨w5.heap.size, 0, none⟩ = some (.string nv) := by rw [cell_of_row _ _ _ _ _ _ HROW7.out]; rfl
      have e1 : w7.cell? ⟨w5.heap.size, 1, none⟩ = some (.slice ca5 cn5 cc5) := by rw [cell_of_row _ _ _ _ _ _ HROW7.out]; rfl
      have e2 : w7.cell? ⟨w5.heap.size, 2, none⟩ = some (.slice wa5 wn5 wc5) := by rw [cell_of_row _ _ _ _ _ _ HROW7.out]; rfl
      have HSA : Hid _ := sameB_any nv code want (.slice ca cn cc) (.slice wa wn wc) (.slice ca5 cn5 cc5) (.slice wa5 wn5 wc5) 0 w.heap.size w4.heap.size w5.heap.size w7 (Rd44.span HC.out (Span.of_below HI7.out.below (Nat.le_refl _))) (Rd4.span HW.out (Span.of_below HI7.out.below (Nat.le_refl _))) (Rd44.span HC5.out (Span.of_below HV7.out (Nat.le_refl _))) (Rd4.span HW5.out (Span.of_below HV7.out (Nat.le_refl _))) HI7.out.below.size HV7.out.size (by have := HBO.out.1; omega) (fun k => by have := HBO.out.2.1 k; omega) (by have := HBO.out.2.2; omega)
      go_wp2_with fail
      refine Calls.mono HSA.out ?_
      rintro r w8 ⟨rfl, hb8⟩
      have HI8 : Hid _ := HI7.out.kept hb8
      have HK8 : Hid (Below w4.heap.size w4 w8) := HK7.out.trans (hb8.mono HK7.out.size)
      have HOB8 : Hid (Own w8 w4.heap.size 3 (.slice ba an bc) L) := own_kept HOB7.out hb8
      clear c0 c1 c2 huz e0 e1 e2 hb8 HSA HROW7 HROW6 HROW5 HV6 HV7 HBA5
      have HSZ1 : Hid _ := sameIntsZ script (.slice la sn lc) (.slice sa sn sc) w8 (HI8.out.L.rd HI8.out.hB) (ScrRd.kept HSC.out HI8.out.below) (by rw [HSN.out]; omega)
      go_wp2_with fail
      refine Calls.mono HSZ1.out ?_
      rintro r w9 ⟨rfl, m9, hw9⟩
      have hb9 : Below w8.heap.size w8 w9 := by rw [hw9]; exact below_drewN (Below.refl _ _) m9
      have HI9 : Hid _ := HI8.out.kept hb9
      have HK9 : Hid (Below w4.heap.size w4 w9) := HK8.out.trans (hb9.mono HK8.out.size)
      have HOB9 : Hid (Own w9 w4.heap.size 3 (.slice ba an bc) L) := own_kept HOB8.out hb9
      have HNA9 : Hid (NumR w9 (.slice aa an ac) L) := NumR.kept (Own.numR HOA.out) HK9.out
      clear hb9 hw9 HSZ1
      have HSR : Hid _ := sameIntsR L (.slice aa an ac) (.slice ba an bc) w9 HNA9.out (Own.numR HOB9.out) (by rw [HAN.out]; exact han6)
      go_wp2_with fail
      refine Calls.mono HSR.out ?_
      rintro r w10 ⟨rfl, m10, hw10⟩
      have hb10 : Below w9.heap.size w9 w10 := by rw [hw10]; exact below_drewN (Below.refl _ _) m10
      have HI10 : Hid _ := HI9.out.kept hb10
      have HK10 : Hid (Below w4.heap.size w4 w10) := HK9.out.trans (hb10.mono HK9.out.size)
      have HOB10 : Hid (Own w10 w4.heap.size 3 (.slice ba an bc) L) := own_kept HOB9.out hb10
      clear hb10 hw10 HSR
      obtain ⟨c0, c1, c2, huz⟩ := HI10.out.tc
      have HSO : Hid _ := sound_any nv (.slice ca cn cc) (.slice wa wn wc) code want 0 w.heap.size w10 (Rd44.span HC.out (Span.of_below HI10.out.below (Nat.le_refl _))) (Rd4.span HW.out (Span.of_below HI10.out.below (Nat.le_refl _))) HI10.out.below.size hnv
      rw [HSD.out] at HSO
      go_wp2_with fail
      refine Calls.mono HSO.out ?_
      rintro r w11 ⟨rfl, hb11⟩
      have HI11 : Hid _ := HI10.out.kept hb11
      have HK11 : Hid (Below w4.heap.size w4 w11) := HK10.out.trans (hb11.mono HK10.out.size)
      have HOB11 : Hid (Own w11 w4.heap.size 3 (.slice ba an bc) L) := own_kept HOB10.out hb11
      clear c0 c1 c2 huz hb11 HSO
      go_wp2
      go_loopw [25] (fun i wx => ∃ k : Nat, k ≤ an ∧ i = .int .i64 k ∧ ACel 3 w3.heap.size w4.heap.size wx aa an ∧ Nine w4.heap.size wx aa k ∧ Hole w3.heap.size w4.heap.size w11 wx) (fun i _ => an - (intOf i).toNat)
      case atStart => exact ⟨0, Nat.zero_le _, rfl, HAC4.out.kept HK11.out (Nat.le_refl _), fun i hi => absurd hi (by omega), Hole.refl _ _ _⟩
      case round =>
        rename World => wx
        obtain ⟨q, hq, rfl, hAC, hN, hH⟩ := hrel
        have HAC : Hid (ACel 3 w3.heap.size w4.heap.size wx aa an) := hAC
        have HN : Hid (Nine w4.heap.size wx aa q) := hN
        have HH : Hid (Hole w3.heap.size w4.heap.size w11 wx) := hH
        clear hAC hN hH
        by_cases hqn : q < an
        · obtain ⟨g, rfl, h0, h1, hblk, z, hz⟩ := HAC.out q hqn
          have hfr := hblk.free q
          have hgl := hblk.lt
          have HAC2 : Hid _ := HAC.out.set g q (.int .i64 (-9))
          have HN2 : Hid _ := HN.out.next h1 hz
          have HH2 : Hid _ := HH.out.set (o := q) h0 h1 (.int .i64 (-9))
          clear hblk
          go_wp2
          go_roundw
          case rel => exact ⟨q + 1, by omega, by go_num, HAC2.out, HN2.out, HH2.out⟩
          case measure => simp [intOf]; omega
        · have hqe : q = an := by omega
          have HI12 : Hid _ := HI11.out.keptB (HH.out.1.mono HS23.out)
          have HNB : Hid (NumR wx (.slice ba an bc) L) := NumR.hole HOB11.out HH.out (Nat.le_refl _)
          have HK12 : Hid (w4.heap.size ≤ wx.heap.size) := by show _ ≤ _; rw [HH.out.2.1]; exact HK11.out.size
          have HN2 : Hid (Nine w4.heap.size wx aa an) := by rw [← hqe]; exact HN.out
          obtain ⟨c0, c1, c2, huz⟩ := HI12.out.uc
          clear hqe
          go_wp2_with fail
          refine Calls.mono (HPL.out _ _ _ _ 0 w1.heap.size HI12.out.C HI12.out.W HI12.out.ubs (HI12.out.L.rd HI12.out.hB)) ?_
          rintro r w13 ⟨vc, rfl, hOc, hb13⟩
          obtain ⟨va3, vc3, hvc, _⟩ := id (Own.numR hOc)
          rw [HAN.out] at hvc
          subst hvc
          have HNC : Hid (NumR w13 (.slice va3 an vc3) L) := Own.numR hOc
          have HNB13 : Hid (NumR w13 (.slice ba an bc) L) := HNB.out.kept hb13
          have HN13 : Hid _ := HN2.out.kept hb13 HK12.out
          have HI13 : Hid _ := HI12.out.kept hb13
          have HK13 : Hid (w4.heap.size ≤ w13.heap.size) := Nat.le_trans HK12.out hb13.size
          clear c0 c1 c2 huz hOc hb13
          go_wp2
          go_loopw [29] (fun i wy => ∃ k : Nat, k ≤ an ∧ i = .int .i64 k ∧ w13 = wy) (fun i _ => an - (intOf i).toNat)
          case atStart => exact ⟨0, Nat.zero_le _, rfl, rfl⟩
          case round =>
            obtain ⟨p, hp, rfl, rfl⟩ := hrel
            by_cases hpn : p < an
            · obtain ⟨g, rfl, hga, hgc⟩ := HN13.out p hpn
              have hgl : g < w13.heap.size := by have := HK13.out; omega
              go_wp2
              go_roundw
              case rel => exact ⟨p + 1, by omega, by go_num, trivial⟩
              case measure => simp [intOf]; omega
            · have HSR2 : Hid _ := sameIntsR L (.slice ba an bc) (.slice va3 an vc3) w13 HNB13.out HNC.out (by rw [HAN.out]; exact han6)
              go_wp2_with fail
              refine Calls.mono HSR2.out ?_
              rintro r w14 ⟨rfl, m14, hw14⟩
              have HB14 : Hid (Below w.heap.size w w14) := by show Below _ _ _; rw [hw14]; exact below_drewN HI13.out.below m14
              clear hw14
              go_wp2_with (go_at_call 9; refine (numL_any _ _).mono ?_; rintro r w14 ⟨rfl, rfl⟩)
              go_ret
              exact ⟨by simp; exact HPBE.out, HB14.out⟩

theorem printL_ne (nm : List UInt8) (code : List (List Q4)) (want : List Q4) : (⟨(printL nm code want).toArray⟩ : ByteArray).toList != [] := by
  rw [ByteArray.toList_eq]
  unfold printL titleL
  simp

/-- Leaves -/
theorem leaves_any (nv : ByteArray) (cv wv sv : Value) (code : List (List Q4)) (want : List Q4) (script : List Int) (model : Int) (w : World) (hC : Rd44 0 w.heap.size w cv code) (hW : Rd4 0 w.heap.size w wv want) (hnv : nv.size ≤ 9223372036854775807)
    (hSc : ScrRd w sv script) (hsl : script.length + 1 ≤ 17592186044416)
    (b1 : code.length ≤ 5864062014700) (b2 : ∀ k : Nat, (code[k]?.getD []).length ≤ 4398046511000) (b3 : want.length ≤ 4398046511000) :
    Calls Try.prog 5 #[.agg #[.string nv, cv, wv], .int .i64 model, sv] w fun r w' => r = .returned (.bool true) ∧ Below w.heap.size w w' := by
  cases hS : sndT nv.data.toList code want
  · exact leaves_core nv cv wv sv code want script model w hC hW hnv hSc hsl b1 b2 b3 ⟨#[]⟩ 9 [] false 9 false (by simp) hS (by rw [ByteArray.toList_eq]; rfl) (fun wx cv' wv' lo hi h1 h2 h3 => pprint_bad nv cv' wv' code want lo hi wx h1 h2 h3 hnv hS)
      (fun wx cv' wv' lv lo hi h1 h2 h3 _ => (pplay_bad nv cv' wv' lv code want lo hi model wx h1 h2 h3 hnv hS).mono fun r w' h => ⟨_, h.1, Own.nil _ _ _, h.2⟩)
  · by_cases hm : model = 0 ∨ model = 1
    · obtain ⟨mo, hmo, rfl⟩ : ∃ mo : Nat, (mo = 0 ∨ mo = 1) ∧ model = (mo : Int) := hm.elim (fun e => ⟨0, Or.inl rfl, e⟩) (fun e => ⟨1, Or.inr rfl, e⟩)
      exact leaves_core nv cv wv sv code want script mo w hC hW hnv hSc hsl b1 b2 b3 _ 0 (endS (codeR code).length (playS (codeR code) mo script)) _ 0 true (by
          have := (sndC_of hS).2.1
          have := endS_length (codeR code).length (playS (codeR code) mo script)
          omega) hS (printL_ne nv.data.toList code want) (fun wx cv' wv' lo hi h1 h2 h3 => pprint_any nv cv' wv' code want lo hi wx h1 h2 h3 hnv hS)
        (fun wx cv' wv' lv lo hi h1 h2 h3 h4 => pplay_any nv cv' wv' lv code want lo hi mo hmo script wx h1 h2 h3 hnv hS h4)
    · exact leaves_core nv cv wv sv code want script model w hC hW hnv hSc hsl b1 b2 b3 _ 0 [] false 7 true (by simp) hS (printL_ne nv.data.toList code want) (fun wx cv' wv' lo hi h1 h2 h3 => pprint_any nv cv' wv' code want lo hi wx h1 h2 h3 hnv hS)
        (fun wx cv' wv' lv lo hi h1 h2 h3 _ => (pplay_model nv cv' wv' lv code want lo hi model ⟨fun e => hm (Or.inl e), fun e => hm (Or.inr e)⟩ wx h1 h2 h3 hnv hS).mono fun r w' h => ⟨_, h.1, Own.nil _ _ _, h.2⟩)

end Go.Proofs.Ytokfiflflcfidab
