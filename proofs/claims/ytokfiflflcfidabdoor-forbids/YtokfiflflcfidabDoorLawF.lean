import Derived.Test.YtokfiflflcfidabDoorRows
import Derived.Test.YtokfiflflcfidabDoorSndM
import Derived.Test.YtokfiflflcfidabDoorGivW
import Derived.Test.YtokfiflflcfidabDoorEvB
import Derived.WalkKit
import Derived.WalkSpells
import Derived.WalkLawsBesides
import Derived.RegionTactic
import Derived.BigRegion
import Derived.Deep.RegionWith
import Derived.Deep.QuietTactic
import Derived.BigQuiet
namespace Go.Proofs.YtokfiflflcfidabDoor
open Go.RowKit

theorem EArr.span {lo hi : Nat} {w w' : World} {b : Nat} {l : List Ev} (h : EArr w b l) (hs : Span lo hi w w') (h1 : lo ≤ b) (h2 : b < hi) : EArr w' b l := by
  refine ⟨Nat.lt_of_lt_of_le h.1 hs.size, fun i hi => ?_⟩
  have e := h.2 i hi
  exact ⟨(hs.cell h1 h2).trans e.wr, (hs.cell h1 h2).trans e.th, (hs.cell h1 h2).trans e.ce, (hs.cell h1 h2).trans e.af, (hs.cell h1 h2).trans e.va, (hs.cell h1 h2).trans e.lo⟩

theorem wrap64 (n : Int) (h0 : 0 ≤ n) (h1 : n < 9223372036854775808) : IntKind.i64.wrap n = n := by
  simp [IntKind.wrap, IntKind.bits, IntKind.signed]
  omega

set_option maxRecDepth 100000 in
set_option maxHeartbeats 16000000 in
theorem built_any (s : ByteArray) (hs : s.size ≤ 9223372036854775807) (g off cap : Nat) (w : World) (hA : Arr w g off (baseL s.data.toList)) (h0 : (rd s.data.toList).1 = 0) (hT : TabN w) (hTR : TabR w) :
    Calls Tryd.prog 12 #[.string s, .slice (some ⟨g, off, none⟩) (baseL s.data.toList).length cap] w fun r w' => ∃ nv ca cn cc wa wn wc g2 c2, r = .returned (.tuple #[.agg #[.string nv, .slice ca cn cc, .slice wa wn wc], .slice (some ⟨g2, 0, none⟩) (ringL s.data.toList).length c2, .bool true]) ∧
      Rd44 w.heap.size w'.heap.size w' (.slice ca cn cc) (codeQ (ringL s.data.toList)) ∧ Rd4 w.heap.size w'.heap.size w' (.slice wa wn wc) (wantQ (ringL s.data.toList)) ∧ EArr w' g2 (eventsL (ringL s.data.toList)) ∧ w.heap.size ≤ g2 ∧ Below w.heap.size w w' := by
  obtain ⟨hR, hlast, h16, hbl, hrl, hE, hpos⟩ := rd_ring h0
  have hL := hR.toLay
  have HSN : Hid _ := built_snd h0
  have hb0 : Below w.heap.size w (w.alloc (.cells #[.string ⟨#[]⟩, .slice none 0 0, .slice none 0 0] 33)) := (Below.refl _ _).alloc (Nat.le_refl _) _
  have hcl : (codeQ (ringL s.data.toList)).length = (ringL s.data.toList).countP lT := by simp [codeQ, codeOf]
  have hTle : (ringL s.data.toList).countP lT ≤ (ringL s.data.toList).length := List.countP_le_length
  have hthr : thrOf (ringL s.data.toList) ((ringL s.data.toList).length - 1) + 1 = (ringL s.data.toList).countP lT := by
    have h1 := thr_succ (ringL s.data.toList) ((ringL s.data.toList).length - 1) (by have := hL.pos; omega)
    have h2 : thrOf (ringL s.data.toList) (ringL s.data.toList).length = (ringL s.data.toList).countP lT := by unfold thrOf; rw [List.take_length]
    rw [show (ringL s.data.toList).length - 1 + 1 = (ringL s.data.toList).length from by have := hL.pos; omega, h2, hlast] at h1
    simp [b1] at h1
    omega
  have hwl : (wantQ (ringL s.data.toList)).length ≤ 1000 := by
    unfold wantQ wantOf
    rw [List.length_map, List.length_append]
    have := wrTo_len (ringL s.data.toList) (ringL s.data.toList).length
    have := wcTo_len (ringL s.data.toList) ((ringL s.data.toList).countP lC)
    have hCle : (ringL s.data.toList).countP lC ≤ (ringL s.data.toList).length := List.countP_le_length
    omega
  have hrowl : ∀ k : Nat, ((codeQ (ringL s.data.toList))[k]?.getD []).length ≤ 1000000000 := by
    intro k
    by_cases hk : k < (ringL s.data.toList).countP lT
    · have h1 := cdTo_len (ringL s.data.toList) k (ringL s.data.toList).length
      simp [codeQ, codeOf, hk]
      omega
    · simp [codeQ, codeOf, hk]
  have hC0 : 0 < (baseL s.data.toList).countP lC := by
    have h1 := ring_count lC (baseL s.data.toList) (by omega)
    rw [← h1]
    exact hL.some
  have hevs : eventsOf (baseL s.data.toList) = eventsL (ringL s.data.toList) := rfl
  have hevl := events_length (ringL s.data.toList)
  have hbr : (baseL s.data.toList).length = (ringL s.data.toList).length := by omega
  rw [hbr]
  have H0 : Hid _ := h0
  have HT : Hid _ := hT
  have HTR : Hid _ := hTR
  have HBL : Hid _ := hbl
  have HRLN : Hid _ := hrl
  have HEVL : Hid _ := hevl
  have HCL : Hid _ := hcl
  have HTHR : Hid _ := hthr
  have HBR : Hid _ := hbr
  have HEVS : Hid _ := hevs
  have hl0 := hL.pos
  have hbp : 0 < (baseL s.data.toList).length := by omega
  have hb64 : (baseL s.data.toList).length ≤ 64 := by omega
  clear hbl hrl hevl hcl hthr hbr hevs h0
  go_enter Tryd.func12, Tryd.ntmps12
  go_wp2_with fail
  refine (build_any s hs _ (hT.kept hb0)).mono ?_
  rintro r w1 ⟨nv, cv, wv, rfl, hyes, _, hb1⟩
  obtain ⟨hnv, hC1, hW1⟩ := hyes H0.out
  rw [H0.out]
  have hs1 : w.heap.size + 1 ≤ w1.heap.size := by have := hb1.size; simpa using this
  have hBR1 : Below (w.heap.size + 1) (w.alloc (.cells #[.string ⟨#[]⟩, .slice none 0 0, .slice none 0 0] 33)) w1 := hb1.mono (by simp)
  obtain ⟨ca, cc, hcv, hC1'⟩ := hC1
  obtain ⟨wa, wc, hwv, hW1'⟩ := hW1
  obtain ⟨n3, hn3⟩ : ∃ n3, n3 = (codeQ (ringL s.data.toList)).length := ⟨_, rfl⟩
  obtain ⟨n4, hn4⟩ : ∃ n4, n4 = (wantQ (ringL s.data.toList)).length := ⟨_, rfl⟩
  rw [← hn3] at hcv
  rw [← hn4] at hwv
  subst hcv
  subst hwv
  have HN3 : Hid _ := hn3
  have HN4 : Hid _ := hn4
  have HNV : Hid _ := hnv
  have HN3c : Hid (n3 = (ringL s.data.toList).countP lT) := by show _ = _; rw [HN3.out, HCL.out]
  have hn3b : n3 ≤ 1000 := by have := HN3c.out; omega
  clear hn3 hn4 hnv
  have hbt : Below w1.heap.size w1 (w1.alloc (.cells #[.string nv, .slice ca n3 cc, .slice wa n4 wc] 52)) := (Below.refl _ _).alloc (Nat.le_refl _) _
  have hC2 : Rd44 (w.alloc (.cells #[.string ⟨#[]⟩, .slice none 0 0, .slice none 0 0] 33)).heap.size w1.heap.size (w1.alloc (.cells #[.string nv, .slice ca n3 cc, .slice wa n4 wc] 52)) (.slice ca n3 cc) (codeQ (ringL s.data.toList)) :=
    Rd44.span (w := w1) ⟨ca, cc, by rw [HN3.out], hC1'⟩ (Span.of_below hbt (Nat.le_refl _))
  have hW2 : Rd4 (w.alloc (.cells #[.string ⟨#[]⟩, .slice none 0 0, .slice none 0 0] 33)).heap.size w1.heap.size (w1.alloc (.cells #[.string nv, .slice ca n3 cc, .slice wa n4 wc] 52)) (.slice wa n4 wc) (wantQ (ringL s.data.toList)) :=
    Rd4.span (w := w1) ⟨wa, wc, by rw [HN4.out], hW1'⟩ (Span.of_below hbt (Nat.le_refl _))
  have hgiv := given_any nv (.slice ca n3 cc) (.slice wa n4 wc) (codeQ (ringL s.data.toList)) (wantQ (ringL s.data.toList)) _ _ _ hC2 hW2 (by simp) (by rw [HCL.out]; omega) hrowl (by omega)
  have hBR2 : Below (w.heap.size + 1) (w.alloc (.cells #[.string ⟨#[]⟩, .slice none 0 0, .slice none 0 0] 33)) (w1.alloc (.cells #[.string nv, .slice ca n3 cc, .slice wa n4 wc] 52)) := hBR1.trans (hbt.mono hs1)
  have HBR2 : Hid _ := hBR2
  have hb01 : Below w.heap.size w w1 := hb0.trans (hBR1.mono (by omega))
  clear hyes hC1' hW1' hC2 hW2 hbt hBR1 hBR2 hb1
  go_wp2_with fail
  refine Calls.mono hgiv ?_
  rintro r w2 ⟨cv2, wv2, rfl, hC3, hW3, hb2⟩
  obtain ⟨ca2, cc2, hcv2, hC3'⟩ := hC3
  obtain ⟨wa2, wc2, hwv2, hW3'⟩ := hW3
  rw [← HN3.out] at hcv2
  rw [← HN4.out] at hwv2
  subst hcv2
  subst hwv2
  have hs2 : w1.heap.size + 1 ≤ w2.heap.size := by have := hb2.size; simpa using this
  have hC4 : Rd44 (w1.alloc (.cells #[.string nv, .slice ca n3 cc, .slice wa n4 wc] 52)).heap.size w2.heap.size w2 (.slice ca2 n3 cc2) (codeQ (ringL s.data.toList)) := ⟨ca2, cc2, by rw [HN3.out], hC3'⟩
  have hW4 : Rd4 (w1.alloc (.cells #[.string nv, .slice ca n3 cc, .slice wa n4 wc] 52)).heap.size w2.heap.size w2 (.slice wa2 n4 wc2) (wantQ (ringL s.data.toList)) := ⟨wa2, wc2, by rw [HN4.out], hW3'⟩
  have hbu : Below w2.heap.size w2 (w2.alloc (.cells #[.string nv, .slice ca2 n3 cc2, .slice wa2 n4 wc2] 33)) := (Below.refl _ _).alloc (Nat.le_refl _) _
  have hBR3 : Below (w.heap.size + 1) (w.alloc (.cells #[.string ⟨#[]⟩, .slice none 0 0, .slice none 0 0] 33)) (w2.alloc (.cells #[.string nv, .slice ca2 n3 cc2, .slice wa2 n4 wc2] 33)) := (HBR2.out.trans (hb2.mono (by simp; omega))).trans (hbu.mono (by omega))
  have hb3 : Below w.heap.size w (w2.alloc (.cells #[.string nv, .slice ca2 n3 cc2, .slice wa2 n4 wc2] 33)) := hb0.trans (hBR3.mono (by omega))
  have hev := events_any (baseL s.data.toList) g off cap _ (hA.kept hb3) hE hbp hb64 (hTR.kept hb3) hC0
  rw [HEVS.out, HBR.out] at hev
  have HEV : Hid _ := hev
  have HBR3 : Hid _ := hBR3
  have HC4 : Hid _ := hC4
  have HW4 : Hid _ := hW4
  clear hev hBR3 hC4 hW4 hC3' hW3' hb3 hbu hgiv HBR2 hb2
  go_wp2_with fail
  refine Calls.mono HEV.out ?_
  rintro r w3 ⟨v3, rfl, hown3, hb3⟩
  obtain ⟨g2, c2, hv3, hg2, hEA⟩ := hown3.shape (by rw [HEVL.out]; exact hl0)
  rw [HEVL.out] at hv3
  subst hv3
  have hs3 : w2.heap.size + 1 ≤ w3.heap.size := by have := hb3.size; simpa using this
  have hg2' : w2.heap.size + 1 ≤ g2 := by simpa using hg2
  have hgl3 : g2 < w3.heap.size := hEA.1
  have hU : w3.heap[w2.heap.size]? = some (.cells #[.string nv, .slice ca2 n3 cc2, .slice wa2 n4 wc2] 33 (0, 0)) := (hb3.block _ (by simp)).trans (heap_alloc_new w2 _)
  have hBR4 : Below (w.heap.size + 1) (w.alloc (.cells #[.string ⟨#[]⟩, .slice none 0 0, .slice none 0 0] 33)) w3 := HBR3.out.trans (hb3.mono (by simp; omega))
  have hth := (hEA.at (i := (ringL s.data.toList).length - 1) (by rw [HEVL.out]; omega)).th
  rw [ev_stat (ringL s.data.toList) hL _ (by omega)] at hth
  have hsp23 : Span 0 w2.heap.size w2 w3 := (Span.of_below ((Below.refl w2.heap.size w2).alloc (Nat.le_refl _) (.cells #[.string nv, .slice ca2 n3 cc2, .slice wa2 n4 wc2] 33)) (Nat.le_refl _)).trans (Span.of_below hb3 (by simp))
  have hC5 := Rd44.span HC4.out (hsp23.mono (Nat.zero_le _) (Nat.le_refl _))
  have hW5 := Rd4.span HW4.out (hsp23.mono (Nat.zero_le _) (Nat.le_refl _))
  have hnvs : nv.size ≤ 9223372036854775807 := by rw [HNV.out]; have := txTo_length (baseL s.data.toList) (baseL s.data.toList).length; simp [ByteArray.size, tx]; have h9 := hb64; omega
  have hsnd := sound_any nv (.slice ca2 n3 cc2) (.slice wa2 n4 wc2) _ _ _ _ w3.drew (Rd44.span hC5 (Span.of_below (below_drewN (Below.refl w3.heap.size w3) 1) (by omega))) (Rd4.span hW5 (Span.of_below (below_drewN (Below.refl w3.heap.size w3) 1) (by omega))) (by show w2.heap.size ≤ w3.heap.size; omega) hnvs
  have hnm : nv.data.toList = tx (baseL s.data.toList) := by rw [HNV.out]
  rw [hnm, HSN.out] at hsnd
  have HSND : Hid _ := hsnd
  have u0 : w3.cell? ⟨w2.heap.size, 0, none⟩ = some (.string nv) := by rw [cell_of_row _ _ 0 _ _ _ hU]; rfl
  have u1 : w3.cell? ⟨w2.heap.size, 1, none⟩ = some (.slice ca2 n3 cc2) := by rw [cell_of_row _ _ 1 _ _ _ hU]; rfl
  have u2 : w3.cell? ⟨w2.heap.size, 2, none⟩ = some (.slice wa2 n4 wc2) := by rw [cell_of_row _ _ 2 _ _ _ hU]; rfl
  have hli : ((ringL s.data.toList).length : Int) - 1 = (((ringL s.data.toList).length - 1 : Nat) : Int) := by omega
  have hlit : (((ringL s.data.toList).length : Int) - 1).toNat = (ringL s.data.toList).length - 1 := by omega
  have hfin4 : ((n3 : Int) == ((thrOf (ringL s.data.toList) ((ringL s.data.toList).length - 1) : Nat) : Int) + 1) = true := by rw [beq_iff_eq]; have h1 := HN3c.out; have h2 := HTHR.out; omega
  have HU : Hid _ := hU
  have HBR4 : Hid _ := hBR4
  have HC5 : Hid _ := hC5
  have HW5 : Hid _ := hW5
  have HEA : Hid _ := hEA
  have hthl : thrOf (ringL s.data.toList) ((ringL s.data.toList).length - 1) ≤ 100 := by have h2 := HTHR.out; omega
  dsimp only at hth
  have HWR : Hid ((n3 : Int) = IntKind.i64.wrap (((thrOf (ringL s.data.toList) ((ringL s.data.toList).length - 1) : Nat) : Int) + 1)) := by
    show _ = _
    rw [wrap64 _ (by omega) (by omega)]
    have h1 := HN3c.out
    have h2 := HTHR.out
    omega
  generalize thrOf (ringL s.data.toList) ((ringL s.data.toList).length - 1) = tl at *
  have HFIN : Hid (∀ w5, Below w3.heap.size w3 w5 → ∀ W, W = (((w5.setCell ⟨w.heap.size, 0, none⟩ (.string nv)).setCell ⟨w.heap.size, 1, none⟩ (.slice ca2 n3 cc2)).setCell ⟨w.heap.size, 2, none⟩ (.slice wa2 n4 wc2)) → Rd44 w.heap.size W.heap.size W (.slice ca2 n3 cc2) (codeQ (ringL s.data.toList)) ∧ Rd4 w.heap.size W.heap.size W (.slice wa2 n4 wc2) (wantQ (ringL s.data.toList)) ∧ EArr W g2 (eventsL (ringL s.data.toList)) ∧ w.heap.size ≤ g2 ∧ Below w.heap.size w W) := by
    intro w5 hb5 W hW
    subst hW
    have hs5 := hb5.size
    obtain ⟨hF1, hF2, _⟩ := fin3 (hBR4.trans (hb5.mono (by omega))) (B := w.heap.size + 1) (Nat.le_refl _) (.string nv) (.slice ca2 n3 cc2) (.slice wa2 n4 wc2)
    have hsz := hF1.size
    have hlo : w.heap.size + 1 ≤ (w1.alloc (.cells #[.string nv, .slice ca n3 cc, .slice wa n4 wc] 52)).heap.size := by rw [World.size_alloc]; omega
    exact ⟨Rd44.mono (Rd44.span (Rd44.span hC5 (Span.of_below hb5 (by omega))) (hF1.mono hlo (by omega))) (Nat.le_trans (by omega) hlo) (Nat.le_trans (by omega) hsz),
      Rd4.mono (Rd4.span (Rd4.span hW5 (Span.of_below hb5 (by omega))) (hF1.mono hlo (by omega))) (Nat.le_trans (by omega) hlo) (Nat.le_trans (by omega) hsz),
      EArr.span (EArr.span hEA (Span.of_below (lo := 0) hb5 (Nat.le_refl _)) (Nat.zero_le _) hgl3) hF1 (by omega) (by omega), by omega, hF2⟩
  clear hown3 hb3 hU hBR4 hC5 hW5 hsnd hEA hsp23 HEV HC4 HW4 HBR3 hnm
  clear hR hL hlast hpos hE hTle hwl hrowl hC0 hs hA hT hTR HT HTR HSN hnvs
  go_wp2
  go_region_with (first | (go_at_call 11; refine (num_any _ _).mono ?_; rintro r w6 ⟨rfl, rfl⟩) | (go_at_call 33; refine Calls.mono HSND.out ?_; rintro r w5 ⟨rfl, hb5⟩; have y0 := (hb5.cell (p := ⟨w2.heap.size, 0, none⟩) (by show w2.heap.size < w3.heap.size; omega)).trans u0; have y1 := (hb5.cell (p := ⟨w2.heap.size, 1, none⟩) (by show w2.heap.size < w3.heap.size; omega)).trans u1; have y2 := (hb5.cell (p := ⟨w2.heap.size, 2, none⟩) (by show w2.heap.size < w3.heap.size; omega)).trans u2; have HB5 : Hid (Below w3.heap.size w3 w5) := (below_drewN (Below.refl w3.heap.size w3) 1).trans hb5; obtain ⟨hF1, hF2, r0, r1, r2, f0, f1, f2⟩ := fin3 (HBR4.out.trans (HB5.out.mono (by omega))) (B := w.heap.size + 1) (Nat.le_refl _) (.string nv) (.slice ca2 n3 cc2) (.slice wa2 n4 wc2); clear hF1 hF2 hb5))
  all_goals go_wp2
  all_goals refine bodyPost_ret (v := .tuple #[.agg #[.string nv, .slice ca2 n3 cc2, .slice wa2 n4 wc2], .slice (some ⟨g2, 0, none⟩) (ringL s.data.toList).length c2, .bool true]) (by simp [results, Tryd.results12, go_sem, r0, r1, r2]; exact HWR.out) rfl ⟨nv, ca2, n3, cc2, wa2, n4, wc2, g2, c2, rfl, HFIN.out _ HB5.out _ rfl⟩

end Go.Proofs.YtokfiflflcfidabDoor
