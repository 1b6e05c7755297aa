import Derived.Test.YtokfiflflcfidaaRows
import Derived.Test.YtokfiflflcfidaaSkD
import Derived.Test.YtokfiflflcfidaaPsE
import Derived.WalkKit
import Derived.WalkSpells
import Derived.WalkLawsBesides
namespace Go.Proofs.Ytokfiflflcfidaa
open Go.RowKit

/-- the first n lines can stand; the next begins at i -/
def SIv (l : List UInt8) (n i : Nat) : Prop :=
  i ≤ l.length ∧ spR 10 (l.drop i) = (spR 10 l).drop n ∧ (1 ≤ n → nmB ((spS 10 l)[0]?.getD []) = true) ∧ ∀ m, 1 ≤ m → m < n → (m - 1 < 16 ∧ thrB (m - 1) ((spS 10 l)[m]?.getD []) = true)
theorem psN_spR (l : List UInt8) : psN l = (spR 10 l).length - 1 := by unfold psN; rw [spS_spR]
theorem SIv.init (l : List UInt8) : SIv l 0 0 := ⟨Nat.zero_le _, by simp, fun h => absurd h (by omega), fun m h1 h2 => absurd h2 (by omega)⟩
theorem SIv.last {l : List UInt8} {n i : Nat} {x : List UInt8} (h : SIv l n i) (hx : spR 10 (l.drop i) = [x]) : psN l = n := by
  rw [h.2.1] at hx
  have := congrArg List.length hx
  rw [List.length_drop] at this
  simp only [List.length_cons, List.length_nil] at this
  rw [psN_spR]
  omega
theorem SIv.next {l : List UInt8} {n i j : Nat} {x : List UInt8} (h : SIv l n i) (hx : spR 10 (l.drop i) = x :: spR 10 (l.drop j)) : n < psN l ∧ (spS 10 l)[n]?.getD [] = x ∧ spR 10 (l.drop j) = (spR 10 l).drop (n + 1) := by
  rw [h.2.1] at hx
  have hl := congrArg List.length hx
  obtain ⟨p, r, hp⟩ := spR_ne 10 (l.drop j)
  rw [List.length_drop, hp] at hl
  simp only [List.length_cons] at hl
  have hnl : n < (spR 10 l).length := by omega
  rw [List.drop_eq_getElem_cons hnl] at hx
  injection hx with h1 h2
  refine ⟨by rw [psN_spR]; omega, ?_, h2.symm⟩
  rw [spS_spR, List.getElem?_eq_getElem hnl]
  exact h1
theorem SIv.count {l : List UInt8} {n i : Nat} (h : SIv l n i) (h1 : 1 ≤ n) (hn : n ≤ psN l) (hE : n = psN l ∨ ¬ (n - 1 < 16 ∧ thrB (n - 1) ((spS 10 l)[n]?.getD []) = true)) : (psC l).length = n - 1 := by
  unfold psC
  have hpl : (spS 10 l).length = psN l + 1 := by have := (spS_len 10 l).1; unfold psN; omega
  obtain ⟨L, hL⟩ : ∃ L, ((spS 10 l).take (psN l)).drop 1 = L := ⟨_, rfl⟩
  have hLl : L.length = psN l - 1 := by rw [← hL, List.length_drop, List.length_take, hpl]; omega
  have hat : ∀ m, m < L.length → L[m]?.getD [] = (spS 10 l)[1 + m]?.getD [] := fun m hm => by rw [← hL] at hm ⊢; exact sub_at _ _ _ hm
  rw [hL]
  have key : ∀ j, j ≤ n - 1 → (thrs 0 L).length = j + (thrs j (L.drop j)).length := by
    intro j
    induction j with
    | zero => intro _; simp
    | succ j ih =>
      intro hj
      have hm := h.2.2.2 (1 + j) (by omega) (by omega)
      rw [show 1 + j - 1 = j by omega, ← hat j (by omega)] at hm
      rw [ih (by omega), thrs_yes (by omega) hm.1 hm.2, List.length_cons]
      omega
  rw [key (n - 1) (Nat.le_refl _)]
  have hz : thrs (n - 1) (L.drop (n - 1)) = [] := by
    by_cases he : n = psN l
    · rw [List.drop_eq_nil_of_le (by omega)]; rfl
    · refine thrs_no (by omega) ?_
      rw [hat (n - 1) (by omega), show 1 + (n - 1) = n by omega]
      exact hE.resolve_left he
  rw [hz]
  rfl
theorem SIv.outA {l : List UInt8} {n i : Nat} (h : SIv l n i) (hn : psN l = n) : psOk l = false ∧ psAt l = n := by
  by_cases h1 : 1 ≤ n
  · have hc := h.count h1 (by omega) (Or.inl hn.symm)
    have hnm := h.2.2.1 h1
    unfold psOk psAt
    rw [hn, hc, hnm]
    refine ⟨?_, ?_⟩
    · rw [decide_eq_false (show ¬ 1 + (n - 1) < n by omega)]; simp
    · rw [if_neg (by omega), if_neg (by simp), if_pos (Or.inl (by omega))]; omega
  · unfold psOk psAt
    rw [hn, decide_eq_false h1, if_pos (by omega)]
    exact ⟨by simp, by omega⟩
theorem SIv.outB {l : List UInt8} (hn : 1 ≤ psN l) (hb : nmB ((spS 10 l)[0]?.getD []) = false) : psOk l = false ∧ psAt l = 0 := by
  unfold psOk psAt
  rw [hb, if_neg (by omega), if_pos rfl]
  exact ⟨by simp, rfl⟩
theorem wnt_thr {n k : Nat} (hk : k < 16) {x : List UInt8} (h : wntB n x = true) : thrB k x = false := by
  rw [wnt_doc] at h
  rw [thr_doc hk]
  simp only [Bool.and_eq_true, beq_iff_eq] at h
  have h4 := h.1
  cases ht : (x.take 3 == headL k)
  · rfl
  · exfalso
    have h3 := beq_iff_eq.1 ht
    have e : x.take 3 = (x.take 4).take 3 := by rw [List.take_take]; rfl
    rw [e, h4] at h3
    simp [wnH, headL] at h3
theorem SIv.outC {l : List UInt8} {n i : Nat} (h : SIv l n i) (h1 : 0 < n - 1) (hn : n < psN l) (hw : wntB (n - 1) ((spS 10 l)[n]?.getD []) = true) :
    ((n + 1 = psN l ∧ (spS 10 l)[psN l]?.getD [] = []) → psOk l = true) ∧ (¬ (n + 1 = psN l ∧ (spS 10 l)[psN l]?.getD [] = []) → psOk l = false ∧ psAt l = n + 1) := by
  have hc := h.count (by omega) (by omega) (Or.inr fun e => by rw [wnt_thr e.1 hw] at e; cases e.2)
  have hnm := h.2.2.1 (by omega)
  refine ⟨fun e => ?_, fun e => ?_⟩
  · unfold psOk
    rw [hc, hnm, show 1 + (n - 1) = n by omega, hw, e.2]
    simp
    omega
  · unfold psOk psAt
    rw [hc, hnm, show 1 + (n - 1) = n by omega, hw]
    refine ⟨?_, ?_⟩
    · by_cases h2 : n + 1 = psN l
      · have h3 : ¬ (spS 10 l)[psN l]?.getD [] = [] := fun q => e ⟨h2, q⟩
        rw [beq_eq_false_iff_ne.2 h3]; simp
      · rw [decide_eq_false (show ¬ 2 + (n - 1) = psN l by omega)]; simp
    · rw [if_neg (by omega), if_neg (by simp), if_neg (by omega), if_neg (by simp), if_pos]
      · omega
      · by_cases h2 : n + 1 = psN l
        · exact Or.inr fun q => e ⟨h2, q⟩
        · exact Or.inl (by omega)
theorem SIv.outD {l : List UInt8} {n i : Nat} (h : SIv l n i) (h1 : 1 ≤ n) (hn : n < psN l) (hw : (decide (0 < n - 1) && wntB (n - 1) ((spS 10 l)[n]?.getD [])) = false) (ht : (decide (n - 1 < 16) && thrB (n - 1) ((spS 10 l)[n]?.getD [])) = false) : psOk l = false ∧ psAt l = n := by
  have hc := h.count h1 (by omega) (Or.inr fun e => by rw [decide_eq_true e.1, e.2] at ht; cases ht)
  have hnm := h.2.2.1 h1
  unfold psOk psAt
  rw [hc, hnm, show 1 + (n - 1) = n by omega]
  by_cases h0 : 0 < n - 1
  · rw [decide_eq_true h0, Bool.true_and] at hw
    rw [hw]
    refine ⟨by simp, ?_⟩
    rw [if_neg (by omega), if_neg (by simp), if_neg (by omega), if_pos rfl]
  · rw [decide_eq_false h0]
    refine ⟨by simp, ?_⟩
    rw [if_neg (by omega), if_neg (by simp), if_pos (Or.inr (by omega))]
theorem SIv.go {l : List UInt8} {n i j : Nat} {x : List UInt8} (h : SIv l n i) (hj : j ≤ l.length) (hx : spR 10 (l.drop i) = x :: spR 10 (l.drop j)) (h0 : n = 0 → nmB x = true) (h1 : 1 ≤ n → (decide (n - 1 < 16) && thrB (n - 1) x) = true) : SIv l (n + 1) j := by
  obtain ⟨k1, k2, k3⟩ := h.next hx
  refine ⟨hj, k3, fun _ => ?_, fun m m1 m2 => ?_⟩
  · by_cases hz : n = 0
    · subst hz
      rw [k2]; exact h0 rfl
    · exact h.2.2.1 (by omega)
  · by_cases hm : m = n
    · subst hm
      have := h1 m1
      rw [Bool.and_eq_true, decide_eq_true_eq] at this
      rw [k2]; exact this
    · exact h.2.2.2 m m1 (by omega)
theorem SIv.end {l : List UInt8} {n i j : Nat} {x : List UInt8} (h : SIv l n i) (hx : spR 10 (l.drop i) = x :: spR 10 (l.drop j)) (hj : j ≤ l.length) : (j = l.length) ↔ (n + 1 = psN l ∧ (spS 10 l)[psN l]?.getD [] = []) := by
  obtain ⟨k1, k2, k3⟩ := h.next hx
  have hpl : (spR 10 l).length = psN l + 1 := by obtain ⟨p, r, hp⟩ := spR_ne 10 l; rw [psN_spR, hp]; simp
  constructor
  · intro e
    rw [List.drop_eq_nil_of_le (by omega)] at k3
    have hl := congrArg List.length k3
    rw [List.length_drop, hpl] at hl
    simp only [spR, List.length_cons, List.length_nil] at hl
    have hn : n + 1 = psN l := by omega
    refine ⟨hn, ?_⟩
    rw [spS_spR, ← hn]
    have : (spR 10 l)[n + 1]? = ((spR 10 l).drop (n + 1))[0]? := by rw [List.getElem?_drop]
    rw [this, ← k3]
    rfl
  · rintro ⟨hn, he⟩
    have hd : (spR 10 l).drop (n + 1) = [[]] := by
      have hlt : n + 1 < (spR 10 l).length := by omega
      rw [spS_spR, ← hn, List.getElem?_eq_getElem hlt] at he
      rw [List.drop_eq_getElem_cons hlt, show (spR 10 l)[n + 1] = [] from he, List.drop_eq_nil_of_le (by omega)]
    rw [hd] at k3
    have hjn := spR_join 10 (l.drop j)
    rw [k3] at hjn
    have := congrArg List.length hjn
    simp [opens] at this
    omega

theorem SIv.le {l : List UInt8} {n i : Nat} (h : SIv l n i) : n ≤ psN l ∧ psN l ≤ l.length := by
  obtain ⟨p, r, hp⟩ := spR_ne 10 (l.drop i)
  have h2 := h.2.1
  rw [hp] at h2
  have := congrArg List.length h2
  rw [List.length_drop] at this
  simp only [List.length_cons] at this
  have h3 := (spS_len 10 l).2
  rw [spS_spR] at h3
  rw [psN_spR]
  omega

set_option maxRecDepth 100000 in
set_option maxHeartbeats 1600000 in
theorem stuck_any (s : ByteArray) (hs : s.size ≤ 900000) (w : World) :
    Calls Try.prog 14 #[.string s] w fun r w' => r = .returned (.int .i64 (if psOk s.data.toList = true then -1 else (psAt s.data.toList : Int))) ∧ Below w.heap.size w w' := by
  have HL : Hid (s.data.toList.length = s.size) := byP_len s
  obtain ⟨R, hR⟩ : ∃ R : Int, (if psOk s.data.toList = true then -1 else (psAt s.data.toList : Int)) = R := ⟨_, rfl⟩
  have HRF : Hid (∀ n : Nat, psOk s.data.toList = false ∧ psAt s.data.toList = n → R = (n : Int)) := fun n h => by rw [← hR, h.1, h.2]; rfl
  have HRT : Hid (psOk s.data.toList = true → R = -1) := fun h => by rw [← hR, h]; rfl
  rw [hR]
  clear hR
  go_enter Try.func14, Try.ntmps14
  go_wp2_with fail
  go_loopw [3, 4] (fun n i wr => ∃ k q : Nat, n = .int .i64 k ∧ i = .int .i64 q ∧ SIv s.data.toList k q ∧ Below w.heap.size w wr) (fun _ i _ => s.size - (intOf i).toNat)
  case atStart => exact ⟨0, 0, rfl, rfl, SIv.init _, Below.refl _ _⟩
  case round =>
    obtain ⟨k, q, rfl, rfl, hI, hb⟩ := hrel
    have HI : Hid (SIv s.data.toList k q) := hI
    have HB : Hid (Below w.heap.size w wr) := hb
    have hq : q ≤ s.size := by rw [← HL.out]; exact hI.1
    have hk9 : k ≤ 900000 := by have := hI.le; rw [HL.out] at this; omega
    clear hI hb
    have HLI : Hid _ := fun wx => line_any s hs q hq wx
    go_wp2_with fail
    refine Calls.mono (HLI.out _) ?_
    rintro r wr ⟨hP, rfl⟩
    rcases hP with ⟨x, hx, rfl⟩ | ⟨x, j, hij, hj, hx, hxl, rfl⟩
    · have HV : Hid (R = (k : Int)) := HRF.out k (HI.out.outA (HI.out.last hx))
      clear hx
      go_wp2
      go_ret
      exact ⟨by rw [HV.out]; rfl, HB.out⟩
    · have HX : Hid (spR 10 (s.data.toList.drop q) = x :: spR 10 (s.data.toList.drop j)) := hx
      have HN : Hid _ := HI.out.next hx
      have HJ : Hid (j ≤ s.data.toList.length) := by show _ ≤ _; rw [HL.out]; exact hj
      have HXS : Hid ((⟨x.toArray⟩ : ByteArray).size ≤ 900000) := by show _ ≤ _; rw [by_size]; omega
      have hda : (⟨x.toArray⟩ : ByteArray).data.toList = x := by_data _
      clear hx hxl
      by_cases hk0 : k = 0
      · have HK0 : Hid _ := hk0
        have hk0i : ((k : Int) == 0) = true := by rw [beq_iff_eq]; omega
        have HNL : Hid _ := fun wx => nameLine_any ⟨x.toArray⟩ HXS.out wx
        rw [hda] at HNL
        clear hda hk0
        cases hv : nmB x
        · rw [hv] at HNL
          have HV : Hid (R = 0) := HRF.out 0 (SIv.outB (by have := HN.out.1; omega) (by have := HN.out.2.1; rw [HK0.out] at this; rw [this]; exact hv))
          clear hv
          generalize (⟨x.toArray⟩ : ByteArray) = xb at *
          go_wp2_with (go_at_call 29; refine Calls.mono (HNL.out _) ?_; rintro r wr ⟨rfl, rfl⟩)
          go_ret
          exact ⟨by rw [HV.out]; rfl, HB.out⟩
        · rw [hv] at HNL
          have HG : Hid (SIv s.data.toList (k + 1) j) := HI.out.go HJ.out HX.out (fun _ => hv) (fun h => absurd h (by have := HK0.out; omega))
          clear hv
          generalize (⟨x.toArray⟩ : ByteArray) = xb at *
          go_wp2_with (go_at_call 29; refine Calls.mono (HNL.out _) ?_; rintro r wr ⟨rfl, rfl⟩)
          go_roundw
          case rel => exact ⟨k + 1, j, by go_num, rfl, HG.out, HB.out⟩
          case measure => simp [intOf]; omega
      · have hk0i : ((k : Int) == 0) = false := by rw [beq_eq_false_iff_ne]; omega
        have HWL : Hid _ := fun wx => wantLine_any ⟨x.toArray⟩ HXS.out (k - 1) ((k : Int) - 1) (by omega) wx
        have HTL : Hid _ := fun wx => threadLine_any ⟨x.toArray⟩ HXS.out (k - 1) ((k : Int) - 1) (by omega) wx
        rw [hda] at HWL HTL
        have hk1 : 1 ≤ k := by omega
        clear hda
        cases hv : (decide (0 < k - 1) && wntB (k - 1) x)
        · rw [hv] at HWL
          cases ht : (decide (k - 1 < 16) && thrB (k - 1) x)
          · rw [ht] at HTL
            have HV : Hid (R = (k : Int)) := HRF.out k (HI.out.outD hk1 HN.out.1 (by rw [HN.out.2.1]; exact hv) (by rw [HN.out.2.1]; exact ht))
            clear hv ht
            generalize (⟨x.toArray⟩ : ByteArray) = xb at *
            go_wp2_with (first | (go_at_call 30; refine Calls.mono (HWL.out _) ?_; rintro r w2 ⟨rfl, hb2⟩; have HB2 : Hid (Below w.heap.size w w2) := HB.out.trans (hb2.mono HB.out.size); clear hb2) | (go_at_call 31; refine Calls.mono (HTL.out _) ?_; rintro r w3 ⟨rfl, hb3⟩; have HB3 : Hid (Below w.heap.size w w3) := HB2.out.trans (hb3.mono HB2.out.size); clear hb3))
            go_ret
            exact ⟨by rw [HV.out]; rfl, HB3.out⟩
          · rw [ht] at HTL
            have HG : Hid (SIv s.data.toList (k + 1) j) := HI.out.go HJ.out HX.out (fun h => absurd h hk0) (fun _ => ht)
            clear hv ht
            generalize (⟨x.toArray⟩ : ByteArray) = xb at *
            go_wp2_with (first | (go_at_call 30; refine Calls.mono (HWL.out _) ?_; rintro r w2 ⟨rfl, hb2⟩; have HB2 : Hid (Below w.heap.size w w2) := HB.out.trans (hb2.mono HB.out.size); clear hb2) | (go_at_call 31; refine Calls.mono (HTL.out _) ?_; rintro r w3 ⟨rfl, hb3⟩; have HB3 : Hid (Below w.heap.size w w3) := HB2.out.trans (hb3.mono HB2.out.size); clear hb3))
            go_roundw
            case rel => exact ⟨k + 1, j, by go_num, rfl, HG.out, HB3.out⟩
            case measure => simp [intOf]; omega
        · rw [hv] at HWL
          have HC : Hid _ := HI.out.outC (by rw [Bool.and_eq_true, decide_eq_true_eq] at hv; exact hv.1) HN.out.1 (by rw [HN.out.2.1]; rw [Bool.and_eq_true] at hv; exact hv.2)
          have HE : Hid _ := HI.out.end HX.out HJ.out
          clear hv HTL
          by_cases hjl : j < s.size
          · have HV : Hid (R = ((k + 1 : Nat) : Int)) := HRF.out (k + 1) (HC.out.2 (fun e => by have := HE.out.2 e; rw [HL.out] at this; omega))
            have hji : (j : Int) < (s.size : Int) := by omega
            generalize (⟨x.toArray⟩ : ByteArray) = xb at *
            go_wp2_with (go_at_call 30; refine Calls.mono (HWL.out _) ?_; rintro r w2 ⟨rfl, hb2⟩; have HB2 : Hid (Below w.heap.size w w2) := HB.out.trans (hb2.mono HB.out.size); clear hb2)
            go_ret
            exact ⟨by rw [HV.out]; rfl, HB2.out⟩
          · have HV : Hid (R = -1) := HRT.out (HC.out.1 (HE.out.1 (by rw [HL.out]; omega)))
            have hji : ¬ ((j : Int) < (s.size : Int)) := by omega
            generalize (⟨x.toArray⟩ : ByteArray) = xb at *
            go_wp2_with (go_at_call 30; refine Calls.mono (HWL.out _) ?_; rintro r w2 ⟨rfl, hb2⟩; have HB2 : Hid (Below w.heap.size w w2) := HB.out.trans (hb2.mono HB.out.size); clear hb2)
            go_ret
            exact ⟨by rw [HV.out]; rfl, HB2.out⟩

end Go.Proofs.Ytokfiflflcfidaa
