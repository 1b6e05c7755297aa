import Derived.Test.YtokfiflflcfidaaRows
import Derived.Test.YtokfiflflcfidaaSkC
import Derived.Test.YtokfiflflcfidaaDigW
import Derived.WalkKit
import Derived.WalkSpells
import Derived.WalkLawsBesides
namespace Go.Proofs.Ytokfiflflcfidaa
open Go.RowKit

theorem OwnS.txl {w : World} {base T : Nat} {v : Value} {l : List (List UInt8)} (h : OwnS w base T v l) : TxL w v l := by
  by_cases hl : 0 < l.length
  · obtain ⟨b, off, cap, rfl, _, h1, h2⟩ := OwnS.txrd h hl
    exact ⟨_, cap, rfl, fun i hi => ⟨b, off, rfl, h1, h2 i hi⟩⟩
  · rcases h.2 with ⟨rfl, hn⟩ | ⟨g, cap, cur, rfl, _⟩
    · rw [textsV_length] at hn
      exact ⟨none, 0, by rw [hn], fun i hi => absurd hi (by omega)⟩
    · exact ⟨_, cap, by rw [textsV_length], fun i hi => absurd hi (by omega)⟩
theorem wds_mem {t x : List UInt8} (hx : x ∈ wds t) : x.length ≤ t.length := by
  have : x ∈ spS 32 t := by rw [spS_spR]; exact List.mem_of_mem_tail hx
  exact spS_mem this
theorem ex_drop (s : ByteArray) (n : Nat) : (s.extract n s.size).data.toList = s.data.toList.drop n := by
  rw [Lib.extract_data, ← List.drop_take, List.take_of_length_le (by rw [byP_len]; exact Nat.le_refl _)]

set_option maxRecDepth 100000 in
set_option maxHeartbeats 1600000 in
theorem threadLine_any (s : ByteArray) (hs : s.size ≤ 900000) (k : Nat) (z : Int) (hz : z = (k : Int)) (w : World) :
    Calls Try.prog 31 #[.string s, .int .i64 z] w fun r w' => r = .returned (.bool (decide (k < 16) && thrB k s.data.toList)) ∧ Below w.heap.size w w' := by
  subst hz
  have HL : Hid (s.data.toList.length = s.size) := byP_len s
  by_cases hk : k < 16
  · have hki : ¬ ((16 : Int) ≤ (k : Int)) := by omega
    have HD : Hid ((decide (k < 16) && thrB k s.data.toList) = _) := (by rw [decide_eq_true hk, Bool.true_and] : (decide (k < 16) && thrB k s.data.toList) = thrB k s.data.toList).trans (thr_doc hk s.data.toList)
    have HDG : Hid (∀ u, Calls Try.prog 24 #[.int .i64 k] u fun r w' => r = .returned (.string ⟨#[dgN k]⟩) ∧ Below u.heap.size u w') := fun u => digit_any k hk u
    have HHD : Hid (headL k = [80, dgN k, 58]) := rfl
    have HHL : Hid ((headL k).length = 3) := rfl
    have HST : Hid (∀ (t : ByteArray) (wx : World), t.data.toList = headL k → Calls Try.prog 52 #[.string s, .string t] wx fun r w' => r = .returned (.bool (s.data.toList.take 3 == headL k)) ∧ w' = wx) := fun t wx ht => by
      have h3 : t.size = 3 := by rw [← byP_len, ht]; rfl
      have := starting_any s t hs (by omega) wx
      rw [h3, ht] at this
      exact this
    generalize (decide (k < 16) && thrB k s.data.toList) = res at *
    generalize headL k = hd at *
    generalize dgN k = yk at *
    clear hk
    cases hst : (s.data.toList.take 3 == hd)
    · rw [hst] at HST HD
      have HV : Hid (res = false) := HD.out
      clear hst
      go_enter Try.func31, Try.ntmps31
      go_wp2_with (first | (go_at_call 24; refine Calls.mono (HDG.out _) ?_; rintro r w1 ⟨rfl, hb1⟩; have HB1 : Hid (Below w.heap.size w w1) := hb1; clear hb1) | (go_at_call 52; refine Calls.mono (HST.out _ _ (by rw [HHD.out]; first | rfl | (rw [Joins.data_append, Joins.data_append]; rfl))) ?_; rintro r w1 ⟨rfl, rfl⟩))
      go_ret
      exact ⟨by rw [HV.out]; rfl, HB1.out⟩
    · have HST2 : Hid _ := HST.out
      rw [hst] at HST2 HD
      clear HST
      have hs3 : 3 ≤ s.size := by
        have := congrArg List.length (beq_iff_eq.1 hst)
        rw [List.length_take, HL.out, HHL.out] at this
        omega
      have hs3i : (3 : Int) ≤ (s.size : Int) := by omega
      have HWD : Hid _ := fun wx => words_any (s.extract 3 s.size) (by rw [← byP_len, ex_drop, List.length_drop, byP_len]; omega) wx
      rw [ex_drop] at HWD
      have HMEM : Hid (∀ j : Nat, ((wds (s.data.toList.drop 3))[j]?.getD []).length ≤ 900000) := fun j => by
        by_cases hj : j < (wds (s.data.toList.drop 3)).length
        · have := wds_mem (getD_mem [] hj)
          rw [List.length_drop, byP_len] at this
          omega
        · rw [List.getElem?_eq_none (by omega)]; simp
      clear hst
      obtain ⟨ok, hok⟩ : ∃ x, wdsOk (s.data.toList.drop 3) = x := ⟨_, rfl⟩
      rw [hok] at HWD HD
      generalize wds (s.data.toList.drop 3) = W at *
      clear hok
      cases ok
      · have HV : Hid (res = false) := HD.out
        go_enter Try.func31, Try.ntmps31
        go_wp2_with (first | (go_at_call 24; refine Calls.mono (HDG.out _) ?_; rintro r w1 ⟨rfl, hb1⟩; have HB1 : Hid (Below w.heap.size w w1) := hb1; clear hb1) | (go_at_call 52; refine Calls.mono (HST2.out _ _ (by rw [HHD.out]; first | rfl | (rw [Joins.data_append, Joins.data_append]; rfl))) ?_; rintro r w1 ⟨rfl, rfl⟩) | (go_at_call 53; refine Calls.mono (HWD.out _) ?_; rintro r w2 ⟨v2, rfl, _, hv2, hb2⟩; obtain rfl := hv2 trivial; have HB2 : Hid (Below w.heap.size w w2) := HB1.out.trans (hb2.mono HB1.out.size); clear hb2))
        go_ret
        exact ⟨by rw [HV.out]; rfl, HB2.out⟩
      · have HDT : Hid (res = (decide (0 < W.length) && (decide (W.length ≤ 32) && W.all insB))) := HD.out
        clear HD
        go_enter Try.func31, Try.ntmps31
        go_wp2_with (first | (go_at_call 24; refine Calls.mono (HDG.out _) ?_; rintro r w1 ⟨rfl, hb1⟩; have HB1 : Hid (Below w.heap.size w w1) := hb1; clear hb1) | (go_at_call 52; refine Calls.mono (HST2.out _ _ (by rw [HHD.out]; first | rfl | (rw [Joins.data_append, Joins.data_append]; rfl))) ?_; rintro r w1 ⟨rfl, rfl⟩))
        refine Calls.mono (HWD.out _) ?_
        rintro r w2 ⟨v2, rfl, ho2, _, hb2⟩
        have hT2 : TxL w2 v2 W := OwnS.txl (ho2 trivial)
        obtain ⟨wa, wcap, hv2, hcell⟩ := hT2
        have HCELL : Hid _ := hcell
        have HB2 : Hid (Below w.heap.size w w2) := HB1.out.trans (hb2.mono HB1.out.size)
        obtain ⟨wn, hwn⟩ : ∃ n, W.length = n := ⟨_, rfl⟩
        rw [hwn] at hv2 HCELL HDT
        have HWN : Hid _ := hwn
        subst hv2
        clear hcell hwn ho2 hb2
        by_cases h0 : wn = 0
        · have h0i : ((wn : Int) == 0) = true := by rw [beq_iff_eq]; omega
          have HV : Hid (res = false) := by show _ = _; rw [HDT.out, decide_eq_false (show ¬ 0 < wn by omega)]; simp
          clear h0
          go_wp2
          go_ret
          exact ⟨by rw [HV.out]; rfl, HB2.out⟩
        have h0i : ((wn : Int) == 0) = false := by rw [beq_eq_false_iff_ne]; omega
        by_cases h32 : 32 < wn
        · have h32i : (32 : Int) < (wn : Int) := by omega
          have HV : Hid (res = false) := by show _ = _; rw [HDT.out, decide_eq_false (show ¬ wn ≤ 32 by omega)]; simp
          clear h32
          go_wp2
          go_ret
          exact ⟨by rw [HV.out]; rfl, HB2.out⟩
        have h32i : ¬ ((32 : Int) < (wn : Int)) := by omega
        have HRES : Hid (res = W.all insB) := by show _ = _; rw [HDT.out, decide_eq_true (show 0 < wn by omega), decide_eq_true (show wn ≤ 32 by omega)]; rfl
        go_wp2
        go_loopw [7] (fun i wx => ∃ j : Nat, j ≤ wn ∧ i = .int .i64 j ∧ (W.take j).all insB = true ∧ w2 = wx) (fun i _ => wn - (intOf i).toNat)
        case atStart => exact ⟨0, Nat.zero_le _, rfl, rfl, rfl⟩
        case round =>
          obtain ⟨j, hj, rfl, hall, rfl⟩ := hrel
          have HA : Hid _ := hall
          clear hall
          by_cases hlt : j < wn
          · obtain ⟨b, off, rfl, hbl, hc⟩ := HCELL.out j hlt
            have HS : Hid _ := all_take_succ insB [] W j (by rw [HWN.out]; exact hlt)
            have HN : Hid _ := all_no insB [] W j (by rw [HWN.out]; exact hlt)
            have hda : (⟨(W[j]?.getD []).toArray⟩ : ByteArray).data.toList = W[j]?.getD [] := by_data _
            have HIW : Hid _ := fun wx => dinsWord_any ⟨(W[j]?.getD []).toArray⟩ (by rw [by_size]; have := HMEM.out j; omega) wx
            rw [hda] at HIW
            clear hda
            generalize (⟨(W[j]?.getD []).toArray⟩ : ByteArray) = wd at *
            cases hp : insB (W[j]?.getD [])
            · rw [hp] at HIW
              have HV : Hid (res = false) := by show _ = _; rw [HRES.out]; exact HN.out hp
              clear hp
              go_wp2_with (go_at_call 55; refine Calls.mono (HIW.out _) ?_; rintro r w2 ⟨rfl, rfl⟩)
              go_ret
              exact ⟨by rw [HV.out]; rfl, HB2.out⟩
            · rw [hp] at HIW
              have HP : Hid _ := hp
              clear hp
              go_wp2_with (go_at_call 55; refine Calls.mono (HIW.out _) ?_; rintro r w2 ⟨rfl, rfl⟩)
              go_roundw
              case rel => exact ⟨j + 1, by omega, by go_num, by rw [HS.out, HA.out, HP.out]; rfl, trivial⟩
              case measure => simp [intOf]; omega
          · have HV : Hid (res = true) := by
              show _ = _
              have := HA.out
              rw [List.take_of_length_le (by rw [HWN.out]; omega)] at this
              rw [HRES.out, this]
            go_wp2
            go_ret
            exact ⟨by rw [HV.out]; rfl, HB2.out⟩
  · have hki : (16 : Int) ≤ (k : Int) := by omega
    have HV : Hid ((decide (k < 16) && thrB k s.data.toList) = false) := by show _ = _; rw [decide_eq_false hk]; rfl
    rw [HV.out]
    clear hk
    go_enter Try.func31, Try.ntmps31
    go_wp2
    go_ret
    exact ⟨rfl, Below.refl _ _⟩

set_option maxRecDepth 100000 in
set_option maxHeartbeats 1600000 in
theorem wantLine_any (s : ByteArray) (hs : s.size ≤ 900000) (k : Nat) (z : Int) (hz : z = (k : Int)) (w : World) :
    Calls Try.prog 30 #[.string s, .int .i64 z] w fun r w' => r = .returned (.bool (decide (0 < k) && wntB k s.data.toList)) ∧ Below w.heap.size w w' := by
  subst hz
  have HL : Hid (s.data.toList.length = s.size) := byP_len s
  by_cases hk : 0 < k
  · have hki : ((k : Int) == 0) = false := by rw [beq_eq_false_iff_ne]; omega
    have HD : Hid ((decide (0 < k) && wntB k s.data.toList) = _) := (by rw [decide_eq_true hk, Bool.true_and] : (decide (0 < k) && wntB k s.data.toList) = wntB k s.data.toList).trans (wnt_doc k s.data.toList)
    have HHL : Hid (wnH.length = 4) := rfl
    have HST : Hid (∀ (wx : World), Calls Try.prog 52 #[.string s, .string ⟨#[119, 97, 110, 116]⟩] wx fun r w' => r = .returned (.bool (s.data.toList.take 4 == wnH)) ∧ w' = wx) := fun wx => starting_any s ⟨#[119, 97, 110, 116]⟩ hs (by decide) wx
    generalize (decide (0 < k) && wntB k s.data.toList) = res at *
    clear hk
    cases hst : (s.data.toList.take 4 == wnH)
    · rw [hst] at HST HD
      have HV : Hid (res = false) := HD.out
      clear hst
      go_enter Try.func30, Try.ntmps30
      go_wp2_with (go_at_call 52; refine Calls.mono (HST.out _) ?_; rintro r w ⟨rfl, rfl⟩)
      go_ret
      exact ⟨by rw [HV.out]; rfl, Below.refl _ _⟩
    · have HST2 : Hid _ := HST.out
      rw [hst] at HST2 HD
      clear HST
      have hs3 : 4 ≤ s.size := by
        have := congrArg List.length (beq_iff_eq.1 hst)
        rw [List.length_take, HL.out, HHL.out] at this
        omega
      have hs3i : (4 : Int) ≤ (s.size : Int) := by omega
      have HWD : Hid _ := fun wx => words_any (s.extract 4 s.size) (by rw [← byP_len, ex_drop, List.length_drop, byP_len]; omega) wx
      rw [ex_drop] at HWD
      have HMEM : Hid (∀ j : Nat, ((wds (s.data.toList.drop 4))[j]?.getD []).length ≤ 900000) := fun j => by
        by_cases hj : j < (wds (s.data.toList.drop 4)).length
        · have := wds_mem (getD_mem [] hj)
          rw [List.length_drop, byP_len] at this
          omega
        · rw [List.getElem?_eq_none (by omega)]; simp
      clear hst
      obtain ⟨ok, hok⟩ : ∃ x, wdsOk (s.data.toList.drop 4) = x := ⟨_, rfl⟩
      rw [hok] at HWD HD
      generalize wds (s.data.toList.drop 4) = W at *
      clear hok
      cases ok
      · have HV : Hid (res = false) := HD.out
        go_enter Try.func30, Try.ntmps30
        go_wp2_with (first | (go_at_call 52; refine Calls.mono (HST2.out _) ?_; rintro r w ⟨rfl, rfl⟩) | (go_at_call 53; refine Calls.mono (HWD.out _) ?_; rintro r w2 ⟨v2, rfl, _, hv2, hb2⟩; obtain rfl := hv2 trivial; have HB2 : Hid (Below w.heap.size w w2) := hb2; clear hb2))
        go_ret
        exact ⟨by rw [HV.out]; rfl, HB2.out⟩
      · have HDT : Hid (res = (decide (W.length ≤ 32) && W.all (clW k))) := HD.out
        clear HD
        go_enter Try.func30, Try.ntmps30
        go_wp2_with (first | (go_at_call 52; refine Calls.mono (HST2.out _) ?_; rintro r w ⟨rfl, rfl⟩))
        refine Calls.mono (HWD.out _) ?_
        rintro r w2 ⟨v2, rfl, ho2, _, hb2⟩
        have hT2 : TxL w2 v2 W := OwnS.txl (ho2 trivial)
        obtain ⟨wa, wcap, hv2, hcell⟩ := hT2
        have HCELL : Hid _ := hcell
        have HB2 : Hid (Below w.heap.size w w2) := hb2
        obtain ⟨wn, hwn⟩ : ∃ n, W.length = n := ⟨_, rfl⟩
        rw [hwn] at hv2 HCELL HDT
        have HWN : Hid _ := hwn
        subst hv2
        clear hcell hwn ho2 hb2
        by_cases h32 : 32 < wn
        · have h32i : (32 : Int) < (wn : Int) := by omega
          have HV : Hid (res = false) := by show _ = _; rw [HDT.out, decide_eq_false (show ¬ wn ≤ 32 by omega)]; simp
          clear h32
          go_wp2
          go_ret
          exact ⟨by rw [HV.out]; rfl, HB2.out⟩
        have h32i : ¬ ((32 : Int) < (wn : Int)) := by omega
        have HRES : Hid (res = W.all (clW k)) := by show _ = _; rw [HDT.out, decide_eq_true (show wn ≤ 32 by omega)]; rfl
        go_wp2
        go_loopw [7] (fun i wx => ∃ j : Nat, j ≤ wn ∧ i = .int .i64 j ∧ (W.take j).all (clW k) = true ∧ w2 = wx) (fun i _ => wn - (intOf i).toNat)
        case atStart => exact ⟨0, Nat.zero_le _, rfl, rfl, rfl⟩
        case round =>
          obtain ⟨j, hj, rfl, hall, rfl⟩ := hrel
          have HA : Hid _ := hall
          clear hall
          by_cases hlt : j < wn
          · obtain ⟨b, off, rfl, hbl, hc⟩ := HCELL.out j hlt
            have HS : Hid _ := all_take_succ (clW k) [] W j (by rw [HWN.out]; exact hlt)
            have HN : Hid _ := all_no (clW k) [] W j (by rw [HWN.out]; exact hlt)
            have hda : (⟨(W[j]?.getD []).toArray⟩ : ByteArray).data.toList = W[j]?.getD [] := by_data _
            have HIW : Hid _ := fun wx => dclaimWord_any ⟨(W[j]?.getD []).toArray⟩ (by rw [by_size]; have := HMEM.out j; omega) k wx
            rw [hda] at HIW
            clear hda
            generalize (⟨(W[j]?.getD []).toArray⟩ : ByteArray) = wd at *
            cases hp : (clW k) (W[j]?.getD [])
            · rw [hp] at HIW
              have HV : Hid (res = false) := by show _ = _; rw [HRES.out]; exact HN.out hp
              clear hp
              go_wp2_with (go_at_call 54; refine Calls.mono (HIW.out _) ?_; rintro r w2 ⟨rfl, rfl⟩)
              go_ret
              exact ⟨by rw [HV.out]; rfl, HB2.out⟩
            · rw [hp] at HIW
              have HP : Hid _ := hp
              clear hp
              go_wp2_with (go_at_call 54; refine Calls.mono (HIW.out _) ?_; rintro r w2 ⟨rfl, rfl⟩)
              go_roundw
              case rel => exact ⟨j + 1, by omega, by go_num, by rw [HS.out, HA.out, HP.out]; rfl, trivial⟩
              case measure => simp [intOf]; omega
          · have HV : Hid (res = true) := by
              show _ = _
              have := HA.out
              rw [List.take_of_length_le (by rw [HWN.out]; omega)] at this
              rw [HRES.out, this]
            go_wp2
            go_ret
            exact ⟨by rw [HV.out]; rfl, HB2.out⟩
  · have hki : ((k : Int) == 0) = true := by rw [beq_iff_eq]; omega
    have HV : Hid ((decide (0 < k) && wntB k s.data.toList) = false) := by show _ = _; rw [decide_eq_false hk]; rfl
    rw [HV.out]
    clear hk
    go_enter Try.func30, Try.ntmps30
    go_wp2
    go_ret
    exact ⟨rfl, Below.refl _ _⟩

end Go.Proofs.Ytokfiflflcfidaa
