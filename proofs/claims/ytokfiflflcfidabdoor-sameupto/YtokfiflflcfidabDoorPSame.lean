import Derived.Test.YtokfiflflcfidabDoorRows
import Derived.Test.YtokfiflflcfidabDoorSamR
import Derived.Test.YtokfiflflcfidabDoorEdgL
import Derived.Test.YtokfiflflcfidabDoorScrW
import Derived.Test.YtokfiflflcfidabDoorSamV
import Derived.Test.YtokfiflflcfidabDoorGivW
import Derived.WalkKit
import Derived.WalkSpells
import Derived.WalkLawsBesides
import Derived.Test.YtokfiflflcfidabDoorCards
import Derived.Test.YtokfiflflcfidabDoorTie
import Derived.Test.YtokfiflflcfidabDoorLaid
import Derived.ProofKit
import Derived.LaidMore
import Derived.OpenShut
import Derived.Stop.Joined
import Derived.SevenTiedAt
import Derived.Deep.DeepHandedRow
namespace Go.Proofs.YtokfiflflcfidabDoor
open Go.RowKit

/-- the text PWR Fre FWR Fre -/
def oneQ : ByteArray := ⟨(tx [10, 6, 4, 6]).toArray⟩
/-- the text FWR Fre PWR Fre -/
def oneR : ByteArray := ⟨(tx [4, 6, 10, 6]).toArray⟩
theorem oneQ_rd : rd oneQ.data.toList = (0, 0) := by
  show rd (tx [10, 6, 4, 6]) = (0, 0)
  rw [rd_tx _ (by decide) (by decide) (by decide)]
  decide
theorem oneQ_bs : bs oneQ.data.toList = oneR := by
  unfold bs oneR
  have : bsL oneQ.data.toList = tx [4, 6, 10, 6] := by
    show bsL (tx [10, 6, 4, 6]) = _
    rw [bs_tx _ (by decide) (by decide) (by decide) (by decide)]
    have : leastOf [10, 6, 4, 6] = [4, 6, 10, 6] := by decide
    rw [this]
  rw [this]
theorem oneQ_size : oneQ.size ≤ 9223372036854775807 := by decide
theorem oneR_list : (oneR.toList == [70, 87, 82, 32, 70, 114, 101, 32, 80, 87, 82, 32, 70, 114, 101]) = true := by
  rw [ByteArray.toList_eq]
  decide
theorem bs_dataQ (s : List UInt8) : (bs s).data.toList = bsL s := by simp [bs]

theorem codeQ_bound (L : List Nat) (h16 : L.length ≤ 16) : (codeQ L).length ≤ 1000 ∧ (∀ k : Nat, ((codeQ L)[k]?.getD []).length ≤ 1000) := by
  have hT : L.countP lT ≤ L.length := List.countP_le_length
  have hl : (codeQ L).length = L.countP lT := by simp [codeQ, codeOf]
  refine ⟨by omega, fun k => ?_⟩
  by_cases hk : k < L.countP lT
  · have : ((codeQ L)[k]?.getD []).length = (cdTo L k L.length).length := by simp [codeQ, codeOf, hk]
    rw [this]
    have := cdTo_len L k L.length
    omega
  · have : (codeQ L)[k]? = none := by rw [List.getElem?_eq_none_iff]; omega
    rw [this]
    simp
theorem wantQ_bound (L : List Nat) (h16 : L.length ≤ 16) : (wantQ L).length ≤ 1000 := by
  have hC : L.countP lC ≤ L.length := List.countP_le_length
  have h1 := wrTo_len L L.length
  have h2 := wcTo_len L (L.countP lC)
  have : (wantQ L).length = (wrTo L L.length).length + (wcTo L (L.countP lC)).length := by simp [wantQ, wantOf]
  omega

set_option maxRecDepth 100000 in
set_option maxHeartbeats 3200000 in
theorem samelaw_any (s : ByteArray) (hs : s.size ≤ 1048576) (k : Int) (w : World) (hT : TabN w) (hM : TabM w) :
    Calls Tryd.prog 8 #[.string s, .int .i64 k] w fun r w' => r = .returned (.bool true) ∧ Below w.heap.size w w' := by
  have hob := oneR_list
  have hone := base_any oneQ oneQ_size w hT
  rw [oneQ_rd, oneQ_bs] at hone
  have hsd := size_data s
  go_enter Tryd.func8, Tryd.ntmps8
  go_wp2_with fail
  refine hone.mono ?_
  rintro r w1 ⟨rfl, hb1⟩
  clear hone
  have HB1 : Hid (Below w.heap.size w w1) := hb1
  clear hb1
  go_wp2_with (first | (go_at_call 11; refine (num_any _ _).mono ?_; rintro r w3 ⟨rfl, rfl⟩) | fail)
  refine (edgesC_any s hs _ (hM.kept HB1.out)).mono ?_
  rintro r w2 ⟨v2, ok, rfl, hA, hb2⟩
  have HB2 : Hid (Below w.heap.size w w2) := HB1.out.trans (hb2.mono HB1.out.size)
  clear hb2
  rcases hA with ⟨hE, rfl, hown⟩ | ⟨_, rfl, rfl⟩
  · by_cases hlong : 63 < s.size
    · have hli : (63 : Int) < (s.size : Int) := by omega
      clear hown
      go_wp2
      go_ret
      exact ⟨rfl, HB2.out⟩
    · have hli : ¬ ((63 : Int) < (s.size : Int)) := by omega
      have hsl : s.data.toList.length ≤ 63 := by omega
      have hlen := edgesOf_length hE
      have hl16 : (edgesOf s.data.toList).length ≤ 16 := by omega
      have hElt := edgesOf_lt hE
      obtain ⟨g2, c2, rfl, hg2, hG2⟩ := hown.shape hlen.1
      obtain ⟨ln, hln⟩ : ∃ ln, (edgesOf s.data.toList).length = ln := ⟨_, rfl⟩
      have hln0 : 0 < ln := by omega
      have hln16 : ln ≤ 16 := by omega
      -- the rotation's number
      obtain ⟨kk, hkk, hkl⟩ : ∃ kk : Nat, (kk : Int) = (if k.tmod (ln : Int) < 0 then k.tmod (ln : Int) + (ln : Int) else k.tmod (ln : Int)) ∧ kk < ln := by
        have h1 : -(ln : Int) < k.tmod (ln : Int) := by
          exact Int.lt_tmod_of_pos k (show (0 : Int) < (ln : Int) by omega)
        have h2 : k.tmod (ln : Int) < (ln : Int) := Int.tmod_lt_of_pos k (by omega)
        refine ⟨(if k.tmod (ln : Int) < 0 then k.tmod (ln : Int) + (ln : Int) else k.tmod (ln : Int)).toNat, ?_, ?_⟩
        · split <;> omega
        · split <;> omega
      have hrot := rot_facts hE hsl kk (by omega)
      have HBS : Hid _ := rot_bs hE hsl kk (by omega)
      have HRI : Hid _ := rot_ring hE hsl kk (by omega)
      have HRO : Hid _ := hrot
      have htn := turn_any (edgesOf s.data.toList) g2 0 c2 kk w2 hG2 hlen.1 (by omega) (by omega)
      have hEt : ∀ x ∈ turn (edgesOf s.data.toList) kk, x < 14 := by
        rw [turn_eq _ _ (by omega)]
        intro x hx
        rcases List.mem_append.1 hx with h | h
        · exact hElt x (List.mem_of_mem_drop h)
        · exact hElt x (List.mem_of_mem_take h)
      rw [hln] at htn ⊢
      have HTN : Hid (Calls Tryd.prog 19 #[.slice (some ⟨g2, 0, none⟩) ln c2, .int .i64 (kk : Int)] w2 fun r w' => ∃ v, r = .returned v ∧ Own w' w2.heap.size 3 v (turn (edgesOf s.data.toList) kk) ∧ Below w2.heap.size w2 w') := htn
      have HET : Hid _ := hEt
      have HE : Hid _ := hE
      have htl : (turn (edgesOf s.data.toList) kk).length = ln := by rw [turn_length, hln]
      have HTL : Hid _ := htl
      have hlI : ¬ ((ln : Int) = 0) := by omega
      have hlN : ¬ (ln = 0) := by omega
      have HLN : Hid _ := hln
      have hb1 : -(ln : Int) < k.tmod (ln : Int) := by
        exact Int.lt_tmod_of_pos k (show (0 : Int) < (ln : Int) by omega)
      have hb2 : k.tmod (ln : Int) < (ln : Int) := Int.tmod_lt_of_pos k (by omega)
      -- the rotation's text
      obtain ⟨TB, hTB, hTBd, hTBs⟩ : ∃ TB : ByteArray, TB = ⟨(tx (turn (edgesOf s.data.toList) kk)).toArray⟩ ∧ TB.data.toList = rotT s.data.toList kk ∧ TB.size ≤ 63 := by
        refine ⟨_, rfl, by simp [rotT], ?_⟩
        rw [← size_data]
        have := hrot.2.2.1
        simpa [rotT] using this
      have HTB : Hid _ := hTB
      -- what the calls answer, of the cycle and of its rotation
      have HBA : Hid (∀ wq, TabN wq → Calls Tryd.prog 17 #[.string s] wq fun r w' => r = .returned (.tuple #[.string (bs s.data.toList), .int .i64 ((rd s.data.toList).1 : Nat), .int .i64 ((rd s.data.toList).2 : Nat)]) ∧ Below wq.heap.size wq w') := fun wq hq => base_any s (by omega) wq hq
      have HBR : Hid (∀ wq, TabN wq → Calls Tryd.prog 17 #[.string TB] wq fun r w' => r = .returned (.tuple #[.string (bs s.data.toList), .int .i64 ((rd s.data.toList).1 : Nat), .int .i64 ((rd TB.data.toList).2 : Nat)]) ∧ Below wq.heap.size wq w') := by
        intro wq hq
        have := base_any TB (by omega) wq hq
        rw [hTBd] at this ⊢
        rw [HBS.out, hrot.1] at this
        exact this
      have HTXT : Hid (∀ g c wq, Arr wq g 0 (turn (edgesOf s.data.toList) kk) → TabM wq → Calls Tryd.prog 16 #[.slice (some ⟨g, 0, none⟩) ln c] wq fun r w' => r = .returned (.string TB) ∧ w' = wq) := by
        intro g c wq hA hm
        have := textM_any (turn (edgesOf s.data.toList) kk) g 0 c wq hA hEt (by rw [htl]; omega) hm
        rw [htl, ← hTB] at this
        exact this
      have hrd1 : (rd TB.data.toList).1 = (rd s.data.toList).1 := by rw [hTBd]; exact hrot.1
      have hring : ringL TB.data.toList = ringL s.data.toList := by rw [hTBd]; exact HRI.out
      have hbase : baseL TB.data.toList = baseL s.data.toList := by rw [hTBd]; exact hrot.2.1
      have HOSH : Hid (∀ v wq, Own wq w2.heap.size 3 v (turn (edgesOf s.data.toList) kk) → ∃ g c, v = .slice (some ⟨g, 0, none⟩) ln c ∧ Arr wq g 0 (turn (edgesOf s.data.toList) kk)) := by
        intro v wq h
        obtain ⟨g, c, rfl, _, hG⟩ := h.shape (by rw [htl]; exact hln0)
        exact ⟨g, c, by rw [htl], hG⟩
      clear hown hG2 htn hEt hE hrot hElt htl hln hlen hTB hTBd HBS HRO HRI
      have HWR : Hid (wrap64 (kk : Int) = (kk : Int)) := by show _ = _; unfold wrap64; omega
      by_cases hneg : k.tmod (ln : Int) < 0
      all_goals first | rw [if_pos hneg] at hkk | rw [if_neg hneg] at hkk
      all_goals
        go_wp2_with fail
        rw [← hkk]
        try rw [HWR.out]
        refine Calls.mono HTN.out ?_
        rintro r w3 ⟨v3, rfl, hown3, hb3⟩
        obtain ⟨g3, c3, rfl, hG3⟩ := HOSH.out _ _ hown3
        have HB3 : Hid (Below w.heap.size w w3) := HB2.out.trans (hb3.mono HB2.out.size)
        have HG3 : Hid _ := hG3
        clear hown3 hb3 hG3
        go_wp2_with fail
        refine Calls.mono (HTXT.out _ _ _ HG3.out (hM.kept HB3.out)) ?_
        rintro r w4 ⟨rfl, rfl⟩
        go_wp2_with fail
        refine Calls.mono (HBA.out _ (hT.kept HB3.out)) ?_
        rintro r w5 ⟨rfl, hb5⟩
        have HB5 : Hid (Below w.heap.size w w5) := HB3.out.trans (hb5.mono HB3.out.size)
        clear hb5
        go_wp2_with fail
        refine Calls.mono (HBR.out _ (hT.kept HB5.out)) ?_
        rintro r w6 ⟨rfl, hb6⟩
        have HB6 : Hid (Below w.heap.size w w6) := HB5.out.trans (hb6.mono HB5.out.size)
        clear hb6
        by_cases h0 : (rd s.data.toList).1 = 0
        · have hz := rd_zero h0
          obtain ⟨hR, hlast, h16, hbl, hrl, hE2, hpos⟩ := rd_ring h0
          have h0T : (rd TB.data.toList).1 = 0 := hrd1.trans h0
          have hzT := (rd_zero h0T).1
          have hsz : (bs s.data.toList).size = s.size := by rw [← size_data, bs_dataQ, (bs_bs h0).2.2.1, size_data]
          have hszi : (((bs s.data.toList).size : Int) == (s.size : Int)) = true := by rw [beq_iff_eq]; omega
          have HBD : Hid (∀ wq, TabN wq → Calls Tryd.prog 20 #[.string s] wq fun r w' => ∃ ca cn cc wa wn wc, r = .returned (.tuple #[.agg #[.string ⟨(tx (baseL s.data.toList)).toArray⟩, .slice ca cn cc, .slice wa wn wc], .int .i64 0, .int .i64 0]) ∧ Rd44 wq.heap.size w'.heap.size w' (.slice ca cn cc) (codeQ (ringL s.data.toList)) ∧ Rd4 wq.heap.size w'.heap.size w' (.slice wa wn wc) (wantQ (ringL s.data.toList)) ∧ Below wq.heap.size wq w') := by
            intro wq hq
            refine (build_any s (by omega) wq hq).mono ?_
            rintro r w' ⟨nv, cv, wv, rfl, hy, _, hb⟩
            obtain ⟨rfl, hC, hW⟩ := hy h0
            obtain ⟨ca, cc, rfl, hC'⟩ := id hC
            obtain ⟨wa, wc, rfl, hW'⟩ := id hW
            exact ⟨ca, _, cc, wa, _, wc, by rw [h0, hz.1]; rfl, hC, hW, hb⟩
          have HBDT : Hid (∀ wq, TabN wq → Calls Tryd.prog 20 #[.string TB] wq fun r w' => ∃ ca cn cc wa wn wc, r = .returned (.tuple #[.agg #[.string ⟨(tx (baseL s.data.toList)).toArray⟩, .slice ca cn cc, .slice wa wn wc], .int .i64 0, .int .i64 0]) ∧ Rd44 wq.heap.size w'.heap.size w' (.slice ca cn cc) (codeQ (ringL s.data.toList)) ∧ Rd4 wq.heap.size w'.heap.size w' (.slice wa wn wc) (wantQ (ringL s.data.toList)) ∧ Below wq.heap.size wq w') := by
            intro wq hq
            refine (build_any TB (by omega) wq hq).mono ?_
            rintro r w' ⟨nv, cv, wv, rfl, hy, _, hb⟩
            obtain ⟨rfl, hC, hW⟩ := hy h0T
            rw [hring] at hC hW
            rw [hbase]
            obtain ⟨ca, cc, rfl, hC'⟩ := id hC
            obtain ⟨wa, wc, rfl, hW'⟩ := id hW
            exact ⟨ca, _, cc, wa, _, wc, by rw [h0T, hzT]; rfl, hC, hW, hb⟩
          have HLA : Hid (∀ wq, TabN wq → Calls Tryd.prog 9 #[.string s, .int .i64 1] wq fun r w' => r = .returned (.tuple #[.bool (shown (ringL s.data.toList)), .int .i64 0, .int .i64 0]) ∧ Below wq.heap.size wq w') := by
            intro wq hq
            have := label_any s (by omega) 1 wq hq
            rw [(lb_one h0).1, (lb_one h0).2, show lbP s.data.toList = 0 from hz.1] at this
            exact this
          have HLT : Hid (∀ wq, TabN wq → Calls Tryd.prog 9 #[.string TB, .int .i64 1] wq fun r w' => r = .returned (.tuple #[.bool (shown (ringL s.data.toList)), .int .i64 0, .int .i64 0]) ∧ Below wq.heap.size wq w') := by
            intro wq hq
            have := label_any TB (by omega) 1 wq hq
            rw [(lb_one h0T).1, (lb_one h0T).2, show lbP TB.data.toList = 0 from hzT, hring] at this
            exact this
          have HSC : Hid (∀ wq, TabN wq → Calls Tryd.prog 14 #[.string s] wq fun r w' => ∃ v e l, r = .returned (.tuple #[v, .int .i64 (e : Nat), .int .i64 0]) ∧ NumRd w' v l ∧ ((shown (ringL s.data.toList) = true ∧ e = 0 ∧ l = scrL (ringL s.data.toList)) ∨ (shown (ringL s.data.toList) = false ∧ e = 8 ∧ l = [])) ∧ Below wq.heap.size wq w') := by
            intro wq hq
            refine (script_read s (by omega) wq hq h0).mono ?_
            rintro r w' ⟨v, e, rfl, hy, hn, hb⟩
            cases hsh : shown (ringL s.data.toList)
            · obtain ⟨rfl, rfl⟩ := hn hsh
              exact ⟨_, 8, [], rfl, ⟨none, 0, rfl, fun i hi => by simp at hi⟩, Or.inr ⟨rfl, rfl, rfl⟩, hb⟩
            · obtain ⟨rfl, hO⟩ := hy hsh
              exact ⟨v, 0, _, rfl, hO.nums, Or.inl ⟨rfl, rfl, rfl⟩, hb⟩
          have HST : Hid (∀ wq, TabN wq → Calls Tryd.prog 14 #[.string TB] wq fun r w' => ∃ v e l, r = .returned (.tuple #[v, .int .i64 (e : Nat), .int .i64 0]) ∧ NumRd w' v l ∧ ((shown (ringL s.data.toList) = true ∧ e = 0 ∧ l = scrL (ringL s.data.toList)) ∨ (shown (ringL s.data.toList) = false ∧ e = 8 ∧ l = [])) ∧ Below wq.heap.size wq w') := by
            intro wq hq
            refine (script_read TB (by omega) wq hq h0T).mono ?_
            rintro r w' ⟨v, e, rfl, hy, hn, hb⟩
            rw [hring] at hy hn
            cases hsh : shown (ringL s.data.toList)
            · obtain ⟨rfl, rfl⟩ := hn hsh
              exact ⟨_, 8, [], rfl, ⟨none, 0, rfl, fun i hi => by simp at hi⟩, Or.inr ⟨rfl, rfl, rfl⟩, hb⟩
            · obtain ⟨rfl, hO⟩ := hy hsh
              exact ⟨v, 0, _, rfl, hO.nums, Or.inl ⟨rfl, rfl, rfl⟩, hb⟩
          have HQB : Hid _ := codeQ_bound (ringL s.data.toList) h16
          have HWB : Hid _ := wantQ_bound (ringL s.data.toList) h16
          have HSL : Hid (∀ l : List Nat, ((shown (ringL s.data.toList) = true ∧ True ∧ l = scrL (ringL s.data.toList)) ∨ (shown (ringL s.data.toList) = false ∧ True ∧ l = [])) → l.length ≤ 1000000) := by
            rintro l (⟨hsh, _, rfl⟩ | ⟨_, _, rfl⟩)
            · have := (shows_core _ hR h16 hlast (Nat.le_trans List.countP_le_length h16) hsh).2.1
              show (pkTo _ _ _).1.length ≤ 1000000
              rw [pkTo_len]
              omega
            · exact Nat.zero_le _
          rw [h0, hz.1, hzT]
          clear hz hzT hR hlast h16 hbl hrl hE2 hpos hsz h0T h0 hrd1 hring hbase
          generalize bs s.data.toList = ba at *
          generalize (⟨(tx (baseL s.data.toList)).toArray⟩ : ByteArray) = nm0 at *
          generalize codeQ (ringL s.data.toList) = cq at *
          generalize wantQ (ringL s.data.toList) = wq0 at *
          go_wp2_with (first | (go_at_call 11; refine (num_any _ _).mono ?_; rintro r w7 ⟨rfl, rfl⟩) | fail)
          refine Calls.mono (HBD.out _ (hT.kept HB6.out)) ?_
          rintro r w7 ⟨ca, cn, cc, wa, wn, wc, rfl, hC7, hW7, hb7⟩
          have hbA : Below w7.heap.size w7 (w7.alloc (.cells #[.string nm0, .slice ca cn cc, .slice wa wn wc] 52)) := (Below.refl _ _).alloc (Nat.le_refl _) _
          have HB7 : Hid (Below w.heap.size w (w7.alloc (.cells #[.string nm0, .slice ca cn cc, .slice wa wn wc] 52))) := (HB6.out.trans (hb7.mono HB6.out.size)).trans (hbA.mono (HB6.out.trans (hb7.mono HB6.out.size)).size)
          have HC7 : Hid (Rd44 _ w7.heap.size w7 (.slice ca cn cc) cq) := hC7
          have HW7 : Hid (Rd4 _ w7.heap.size w7 (.slice wa wn wc) wq0) := hW7
          clear hC7 hW7 hb7 hbA
          go_wp2_with fail
          refine Calls.mono (HBDT.out _ (hT.kept HB7.out)) ?_
          rintro r w8 ⟨da, dn, dc, ea, en, ec, rfl, hC8, hW8, hb8⟩
          have hw7 : w7.heap.size < w8.heap.size := by have := hb8.size; simp at this; omega
          have hb78 : Below w7.heap.size w7 w8 := ((Below.refl _ _).alloc (Nat.le_refl _) _).trans (hb8.mono (by simp))
          have t0 : w8.cell? ⟨w7.heap.size, 0, none⟩ = some (.string nm0) := (hb8.cell (p := ⟨w7.heap.size, 0, none⟩) (by simp)).trans (by simp)
          have t1 : w8.cell? ⟨w7.heap.size, 1, none⟩ = some (.slice ca cn cc) := (hb8.cell (p := ⟨w7.heap.size, 1, none⟩) (by simp)).trans (by simp)
          have t2 : w8.cell? ⟨w7.heap.size, 2, none⟩ = some (.slice wa wn wc) := (hb8.cell (p := ⟨w7.heap.size, 2, none⟩) (by simp)).trans (by simp)
          have hb8A : Below w8.heap.size w8 (w8.alloc (.cells #[.string nm0, .slice da dn dc, .slice ea en ec] 52)) := (Below.refl _ _).alloc (Nat.le_refl _) _
          have HB8 : Hid (Below w.heap.size w (w8.alloc (.cells #[.string nm0, .slice da dn dc, .slice ea en ec] 52))) := (HB7.out.trans (hb8.mono HB7.out.size)).trans (hb8A.mono (HB7.out.trans (hb8.mono HB7.out.size)).size)
          have HCA : Hid _ := Rd44.span HC7.out (Span.of_below (hb78.trans (hb8A.mono hb78.size)) (Nat.le_refl _))
          have HWA : Hid _ := Rd4.span HW7.out (Span.of_below (hb78.trans (hb8A.mono hb78.size)) (Nat.le_refl _))
          have hsA : w7.heap.size ≤ (w8.alloc (.cells #[.string nm0, .slice da dn dc, .slice ea en ec] 52)).heap.size := by simp; omega
          have HC8 : Hid _ := hC8
          have HW8 : Hid _ := hW8
          have HGV : Hid _ := given_any nm0 _ _ cq wq0 _ _ _ HCA.out HWA.out hsA (by have := HQB.out.1; omega) (fun k => by have := HQB.out.2 k; omega) (by have := HWB.out; omega)
          have hwn : ¬ (w7.heap.size = w8.heap.size) := by omega
          clear hC8 hW8 hb8 hb78 hb8A hsA
          go_wp2_with fail
          refine Calls.mono HGV.out ?_
          rintro r w9 ⟨cv9, wv9, rfl, hC9, hW9, hb9⟩
          have s0 : w9.cell? ⟨w8.heap.size, 0, none⟩ = some (.string nm0) := (hb9.cell (p := ⟨w8.heap.size, 0, none⟩) (by simp)).trans (by simp)
          have s1 : w9.cell? ⟨w8.heap.size, 1, none⟩ = some (.slice da dn dc) := (hb9.cell (p := ⟨w8.heap.size, 1, none⟩) (by simp)).trans (by simp)
          have s2 : w9.cell? ⟨w8.heap.size, 2, none⟩ = some (.slice ea en ec) := (hb9.cell (p := ⟨w8.heap.size, 2, none⟩) (by simp)).trans (by simp)
          have hw9 : w8.heap.size < w9.heap.size := by have := hb9.size; simp at this; omega
          have hb89 : Below w8.heap.size w8 w9 := ((Below.refl _ _).alloc (Nat.le_refl _) _).trans (hb9.mono (by simp))
          obtain ⟨fa, fc, hfe, hC9'⟩ := id hC9
          obtain ⟨fn, hfn⟩ : ∃ fn, fn = cq.length := ⟨_, rfl⟩
          rw [← hfn] at hfe
          obtain ⟨ga, gc, hge, hW9'⟩ := id hW9
          obtain ⟨gn, hgn⟩ : ∃ gn, gn = wq0.length := ⟨_, rfl⟩
          rw [← hgn] at hge
          subst hfe
          subst hge
          have hb9A : Below w9.heap.size w9 (w9.alloc (.cells #[.string nm0, .slice fa fn fc, .slice ga gn gc] 33)) := (Below.refl _ _).alloc (Nat.le_refl _) _
          have HB9 : Hid (Below w.heap.size w (w9.alloc (.cells #[.string nm0, .slice fa fn fc, .slice ga gn gc] 33))) := (HB8.out.trans (hb9.mono HB8.out.size)).trans (hb9A.mono (HB8.out.trans (hb9.mono HB8.out.size)).size)
          have HCB : Hid _ := Rd44.span HC8.out (Span.of_below (hb89.trans (hb9A.mono hb89.size)) (Nat.le_refl _))
          have HWB2 : Hid _ := Rd4.span HW8.out (Span.of_below (hb89.trans (hb9A.mono hb89.size)) (Nat.le_refl _))
          have hsB : w8.heap.size ≤ (w9.alloc (.cells #[.string nm0, .slice fa fn fc, .slice ga gn gc] 33)).heap.size := by simp; omega
          have HC9 : Hid (Rd44 _ w9.heap.size w9 (.slice fa fn fc) cq) := hC9
          have HW9 : Hid (Rd4 _ w9.heap.size w9 (.slice ga gn gc) wq0) := hW9
          have HGV2 : Hid _ := given_any nm0 _ _ cq wq0 _ _ _ HCB.out HWB2.out hsB (by have := HQB.out.1; omega) (fun k => by have := HQB.out.2 k; omega) (by have := HWB.out; omega)
          have hwn2 : ¬ (w8.heap.size = w9.heap.size) := by omega
          clear hC9 hW9 hb9 hb89 hb9A hsB hC9' hW9' hfn hgn t0 t1 t2
          go_wp2_with fail
          refine Calls.mono HGV2.out ?_
          rintro r w10 ⟨cv10, wv10, rfl, hC10, hW10, hb10⟩
          have u0 : w10.cell? ⟨w9.heap.size, 0, none⟩ = some (.string nm0) := (hb10.cell (p := ⟨w9.heap.size, 0, none⟩) (by simp)).trans (by simp)
          have u1 : w10.cell? ⟨w9.heap.size, 1, none⟩ = some (.slice fa fn fc) := (hb10.cell (p := ⟨w9.heap.size, 1, none⟩) (by simp)).trans (by simp)
          have u2 : w10.cell? ⟨w9.heap.size, 2, none⟩ = some (.slice ga gn gc) := (hb10.cell (p := ⟨w9.heap.size, 2, none⟩) (by simp)).trans (by simp)
          have hw10 : w9.heap.size < w10.heap.size := by have := hb10.size; simp at this; omega
          have hb910 : Below w9.heap.size w9 w10 := ((Below.refl _ _).alloc (Nat.le_refl _) _).trans (hb10.mono (by simp))
          obtain ⟨ha, hc, hhe, hC10'⟩ := id hC10
          obtain ⟨hn_, hhn⟩ : ∃ fn, fn = cq.length := ⟨_, rfl⟩
          rw [← hhn] at hhe
          obtain ⟨ia, ic, hie, hW10'⟩ := id hW10
          obtain ⟨in_, hin⟩ : ∃ gn, gn = wq0.length := ⟨_, rfl⟩
          rw [← hin] at hie
          subst hhe
          subst hie
          have hb10A : Below w10.heap.size w10 (w10.alloc (.cells #[.string nm0, .slice ha hn_ hc, .slice ia in_ ic] 33)) := (Below.refl _ _).alloc (Nat.le_refl _) _
          have HB10 : Hid (Below w.heap.size w (w10.alloc (.cells #[.string nm0, .slice ha hn_ hc, .slice ia in_ ic] 33))) := (HB9.out.trans (hb10.mono HB9.out.size)).trans (hb10A.mono (HB9.out.trans (hb10.mono HB9.out.size)).size)
          have HX1 : Hid _ := Rd44.span HC9.out (Span.of_below (hb910.trans (hb10A.mono hb910.size)) (Nat.le_refl _))
          have HX2 : Hid _ := Rd4.span HW9.out (Span.of_below (hb910.trans (hb10A.mono hb910.size)) (Nat.le_refl _))
          have HY1 : Hid _ := Rd44.span hC10 (Span.of_below hb10A (Nat.le_refl _))
          have HY2 : Hid _ := Rd4.span hW10 (Span.of_below hb10A (Nat.le_refl _))
          have HSAME : Hid _ := same_any nm0 cq wq0 _ _ _ _ _ _ _ _ (w10.alloc (.cells #[.string nm0, .slice ha hn_ hc, .slice ia in_ ic] 33)) HX1.out HX2.out HY1.out HY2.out (by simp; omega) (by simp) HQB.out.1 HQB.out.2 HWB.out
          have hwn3 : ¬ (w9.heap.size = w10.heap.size) := by omega
          clear hC10 hW10 hb10 hb910 hb10A hC10' hW10' hhn hin s0 s1 s2
          go_wp2_with fail
          refine Calls.mono HSAME.out ?_
          rintro r w11 ⟨rfl, hb11⟩
          have HB11 : Hid (Below w.heap.size w w11) := HB10.out.trans (hb11.mono HB10.out.size)
          clear hb11 u0 u1 u2
          go_wp2_with (first | (go_at_call 11; refine (num_any _ _).mono ?_; rintro r w12 ⟨rfl, rfl⟩) | fail)
          refine Calls.mono (HLA.out _ (hT.kept HB11.out)) ?_
          rintro r w12 ⟨rfl, hb12⟩
          have HB12 : Hid (Below w.heap.size w w12) := HB11.out.trans (hb12.mono HB11.out.size)
          clear hb12
          go_wp2_with fail
          refine Calls.mono (HLT.out _ (hT.kept HB12.out)) ?_
          rintro r w13 ⟨rfl, hb13⟩
          have HB13 : Hid (Below w.heap.size w w13) := HB12.out.trans (hb13.mono HB12.out.size)
          clear hb13
          have hbb : ∀ b : Bool, (b == b) = true := fun b => by simp
          go_wp2_with (first | (go_at_call 11; refine (num_any _ _).mono ?_; rintro r w14 ⟨rfl, rfl⟩) | fail)
          refine Calls.mono (HSC.out _ (hT.kept HB13.out)) ?_
          rintro r w14 ⟨v14, e14, l14, rfl, hN14, hor14, hb14⟩
          have HB14 : Hid (Below w.heap.size w w14) := HB13.out.trans (hb14.mono HB13.out.size)
          have HN14 : Hid _ := hN14
          clear hb14 hN14
          go_wp2_with fail
          refine Calls.mono (HST.out _ (hT.kept HB14.out)) ?_
          rintro r w15 ⟨v15, e15, l15, rfl, hN15, hor15, hb15⟩
          have HB15 : Hid (Below w.heap.size w w15) := HB14.out.trans (hb15.mono HB14.out.size)
          have hll : e15 = e14 ∧ l15 = l14 := by
            rcases hor14 with ⟨a1, a2, a3⟩ | ⟨a1, a2, a3⟩ <;> rcases hor15 with ⟨b1, b2, b3⟩ | ⟨b1, b2, b3⟩
            · exact ⟨b2.trans a2.symm, b3.trans a3.symm⟩
            · rw [a1] at b1; cases b1
            · rw [a1] at b1; cases b1
            · exact ⟨b2.trans a2.symm, b3.trans a3.symm⟩
          have hl14 : l14.length ≤ 1000000 := HSL.out l14 (by
            rcases hor14 with ⟨a1, _, a3⟩ | ⟨a1, _, a3⟩
            · exact Or.inl ⟨a1, trivial, a3⟩
            · exact Or.inr ⟨a1, trivial, a3⟩)
          obtain ⟨rfl, rfl⟩ := hll
          have HSI : Hid _ := sameInts_eq l15 v14 v15 w15 (NumRd.kept HN14.out hb15) hN15 hl14
          clear hb15 hN15 hor14 hor15 hl14
          go_wp2_with fail
          refine Calls.mono HSI.out ?_
          rintro r w16 ⟨rfl, m16, rfl⟩
          go_wp2_with (go_at_call 11; refine (num_any _ _).mono ?_; rintro r w17 ⟨rfl, rfl⟩)
          go_ret
          exact ⟨by simp, below_drewN HB15.out _⟩
        · have HB0 : Hid _ := bs_no h0
          have h0i : (((rd s.data.toList).1 : Int) == 0) = false := by rw [beq_eq_false_iff_ne]; omega
          rw [HB0.out]
          clear h0 hrd1 hring hbase
          generalize (rd s.data.toList).1 = e1 at *
          generalize (rd s.data.toList).2 = p1 at *
          generalize (rd TB.data.toList).2 = p2 at *
          go_wp2_with (go_at_call 11; refine (num_any _ _).mono ?_; rintro r w7 ⟨rfl, rfl⟩)
          go_ret
          exact ⟨by simp, HB6.out⟩
  · go_wp2
    go_ret
    exact ⟨rfl, HB2.out⟩

end Go.Proofs.YtokfiflflcfidabDoor

namespace Go.Proofs.YtokfiflflcfidabDoor
open Go.ChangeShapes Go.WideShapes Go.ChangeAt Go.ChangeMaps Go.RowKit

/-- what the two listed variables give -/
theorem tabNM_of_laid {W : World} (h : laidMetH Tryd.prog [("litmus/litmus.edgeNames", Rows.laid_litmus_litmus_edgeNames), ("litmus/litmusref.names", Rows.laid_litmus_litmusref_names)] W) : TabN W ∧ TabM W := by
  rw [MakeChecks.laidMetH_plain _ _ _ (by kernel_rfl)] at h
  obtain ⟨ps, ⟨g0, t0, cs0, f0, p0, q0, hg0, ht0, hv0, hd0, ⟨g1, t1, cs1, f1, p1, q1, hg1, ht1, hv1, hd1, _, _⟩, _⟩, _⟩ := h
  obtain rfl := Option.some.inj (gEdgeNames.symm.trans hg0)
  obtain rfl := Option.some.inj (gNames.symm.trans hg1)
  obtain rfl := Option.some.inj (tEdgeNames.symm.trans ht0)
  obtain rfl := Option.some.inj (tNames.symm.trans ht1)
  have k0 := cells_of_row valOf Tryd.underlying93 cString cStrings (valOf_string Tryd.underlying9) hd0
  have k1 := cells_of_row valOf Tryd.underlying93 cString cStrings (valOf_string Tryd.underlying9) hd1
  have c0 := fun e he => tab_cell gEdgeNames hv0 k0 e _ (names_at e he)
  have c1 := fun e he => tab_cell gNames hv1 k1 e _ (names_at e he)
  exact ⟨⟨World.block_lt_of_cell? W _ (c0 0 (by omega)), c0⟩, ⟨World.block_lt_of_cell? W _ (c1 0 (by omega)), c1⟩⟩

theorem same_laid_met (os : Os) : laidMet Tryd.prog Rows.sameUptoRow.laid ((World.doorLaid Tryd.prog 400 os).forCall (fun _ _ => 0) ⟨#[], #[.string ⟨#[]⟩, .int .i64 0], []⟩).memory :=
  laidMet_of_run' 8 (by kernel_rfl) (by kernel_rfl)
theorem same_reads (os : Os) {H : Type} (enc : TypeId × Value → H) : ∃ places, DataW.whole enc Tryd.prog ((World.doorLaid Tryd.prog 400 os).forCall (fun _ _ => 0) ⟨#[], #[.string ⟨#[]⟩, .int .i64 0], []⟩).memory Tryd.f8.params.toList Rows.sameSpec.vars false #[Value.string ⟨#[]⟩, .int .i64 0].toList 8 = some ([.lit (.string []), .lit (.int .i64 0)], [], places) :=
  ⟨[], by kernel_rfl⟩

set_option maxRecDepth 100000 in
theorem same_liftedUpto (os : Os) (started : os.Started) (H : Type) (enc : TypeId × Value → H) (F : Stop.Interp) :
    ReturnsInHanded {} Tryd.checked os 8 .any ((Rows.OpenSpec.upto Rows.sameSpec).preRow enc Tryd.prog Tryd.f8 Rows.sameUptoRow.domain false Rows.sameUptoRow.laid) (((Rows.OpenSpec.upto Rows.sameSpec).at F).post enc Tryd.prog Tryd.f8 false true false false) := by
  obtain ⟨places, hx⟩ := same_reads os enc
  refine returnsInHanded_of_row (C := Tryd.checked) (s := Rows.OpenSpec.upto Rows.sameSpec) Tryd.own started (by kernel_rfl) Tryd.func8
    (witness_row_at (enc := enc) (C := Tryd.checked) false (World.doorLaid Tryd.prog 400 os) #[.string ⟨#[]⟩, .int .i64 0] rfl (by kernel_rfl) (by kernel_rfl) (by kernel_rfl)
      (OpenSpec.preRow_of_cond 8 hx (by kernel_rfl) (fun k hk => by cases hk; kernel_rfl) (by kernel_rfl) (same_laid_met os))) ?_
  intro W base args ds gs before hval0 hW a1 hcond a3 hL a4 a5
  clear a1 a3 a4 a5
  have hval : ∀ (j : Nat) t v, Tryd.f8.params[j]? = some t → args[j]? = some v → Value.okWide Tryd.prog W .any base t v := hval0
  have hW' := hW
  obtain ⟨p, q, hA0, hV, rfl, hfz, hnd⟩ := hW
  have hA : DataW.TrodAll enc Tryd.prog W 0 (fun _ => true) true Tryd.f8.params.toList args.toList ds p := hA0
  rw [Tryd.params8] at hA hval
  obtain ⟨v0, v1, d0, d1, p0, p1, rfl, rfl, rfl, h0, h1⟩ := trodAll_two hA
  obtain ⟨rfl, rfl⟩ := trodVars_none hV
  obtain ⟨s, rfl, rfl, rfl, hs⟩ := open_string Tryd.underlying9 (hval 0 9 v0 rfl rfl) h0
  obtain ⟨m, rfl, rfl, rfl, wm⟩ := open_int Tryd.underlying3 (hval 1 3 v1 rfl rfl) h1
  have hT := tabNM_of_laid hL
  have hsz : s.size ≤ 1048576 := by
    have hk := of_decide_eq_true (hcond _ rfl)
    simp only [Rows.uptoBulkAll, Rows.uptoBulk, List.append_nil] at hk
    have := size_data s
    simp at hk
    omega
  clear hA0 hval0 hcond
  simp only [List.append_nil] at hW'
  refine (samelaw_any s hsz m W hT.1 hT.2).mono fun e W' ⟨he, hb⟩ => ?_
  subst he
  refine ⟨_, rfl, _, _, _, [], [], [], hW', trodAll_mk1 (shut_bool Tryd.underlying4 _), trodAll_mk2 (shut_string Tryd.underlying9 hs) (shut_int Tryd.underlying3 wm), rfl, hb.frame _, fun h => by cases h⟩

theorem same_saidUpto : Rows.SameUptoSaid :=
  OpenClaim.holds_of_cond 8 Tryd.f8 rfl rfl rfl rfl rfl rfl rfl ⟨rfl, rfl, rfl, rfl, rfl⟩ rfl rfl rfl rfl rfl (by kernel_rfl) Tryd.func8 (by kernel_rfl)
    (of_decide_eq_true (by kernel_rfl)) (by unfold Func.isWrapper; first | (rw [if_pos (by decide +kernel)]; kernel_rfl) | (rw [if_neg (by decide +kernel)]; exact ⟨rfl, rfl⟩))
    (fun os started H enc _ F => by rw [OpenClaim.pre_eq_preRow]; exact same_liftedUpto os started H enc F)

theorem same_plain (f : FuncId) (fn : Func) (hf : Tryd.pinned.checked.prog.funcNamed "litmus/litmuslaw.Same" = some f) (hfn : Tryd.pinned.checked.prog.funcs[f]? = some fn) :
    false = Tryd.pinned.checked.prog.looks [] ∧ ∀ (j : Nat) t, fn.params[j]? = some t → Tryd.pinned.checked.prog.wantsStandIn t = false := by
  obtain rfl : f = 8 := Option.some.inj ((show Tryd.prog.funcNamed "litmus/litmuslaw.Same" = some 8 by kernel_rfl).symm.trans hf) |>.symm
  obtain rfl : fn = Tryd.f8 := (Option.some.inj (Tryd.func8.symm.trans hfn)).symm
  refine ⟨by kernel_rfl, fun j t ht => ?_⟩
  rw [Tryd.params8] at ht
  have hm : t ∈ [9, 3] := by simpa using Array.mem_of_getElem? ht
  have hall : ([9, 3].all fun u => !Tryd.prog.wantsStandIn u) = true := by kernel_rfl
  exact (show Tryd.prog.wantsStandIn t = false by simpa using List.all_eq_true.1 hall t hm)

theorem same_cardUpto : Rows.SameUptoCardSaid :=
  Claim7.holds_tied_plain_at .later [] _ _ _ _ same_saidUpto (fun _ h => by cases h) (by kernel_rfl) (fun _ h => by cases h) sameUpto_row_tie rfl ⟨rfl, rfl⟩ (by kernel_rfl) rfl same_plain (by kernel_rfl)
#print axioms same_cardUpto
end Go.Proofs.YtokfiflflcfidabDoor
