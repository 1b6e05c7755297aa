import Derived.Test.YtokfiflflcfidaaRows
import Derived.Test.YtokfiflflcfidaaSkA
import Derived.Test.YtokfiflflcfidaaPsD
import Derived.WalkKit
import Derived.WalkSpells
import Derived.WalkLawsBesides
namespace Go.Proofs.Ytokfiflflcfidaa
open Go.RowKit

theorem ex0 (s : ByteArray) (n : Nat) : (s.extract 0 n).data.toList = s.data.toList.take n := by rw [Lib.extract_data]; rfl

set_option maxRecDepth 100000 in
set_option maxHeartbeats 800000 in
theorem starting_any (s t : ByteArray) (_hs : s.size ≤ 900000) (_ht : t.size ≤ 900000) (w : World) :
    Calls Try.prog 52 #[.string s, .string t] w fun r w' => r = .returned (.bool (s.data.toList.take t.size == t.data.toList)) ∧ w' = w := by
  by_cases hl : t.size ≤ s.size
  · have hli : (t.size : Int) ≤ (s.size : Int) := by omega
    have HV : Hid (((s.extract 0 t.size).toList == t.toList) = (s.data.toList.take t.size == t.data.toList)) := by
      show _ = _
      rw [ByteArray.toList_eq, ByteArray.toList_eq, ex0]
    obtain ⟨v, hv⟩ : ∃ v, (s.data.toList.take t.size == t.data.toList) = v := ⟨_, rfl⟩
    rw [hv] at HV ⊢
    have hq := HV.out
    clear hv hl
    cases v
    · go_enter Try.func52, Try.ntmps52
      go_wp2
      go_ret
      exact ⟨by first | rfl | simp [hq], rfl⟩
    · go_enter Try.func52, Try.ntmps52
      go_wp2
      go_ret
      exact ⟨by first | rfl | simp [hq], rfl⟩
  · have hli : ¬ ((t.size : Int) ≤ (s.size : Int)) := by omega
    have HV : Hid ((s.data.toList.take t.size == t.data.toList) = false) := by
      show _ = _
      rw [beq_eq_false_iff_ne]
      intro e
      have := congrArg List.length e
      rw [List.length_take, byP_len, byP_len] at this
      omega
    rw [HV.out]
    go_enter Try.func52, Try.ntmps52
    go_wp2
    go_ret
    exact ⟨by first | rfl | simp [hli], rfl⟩

theorem drop_at {l : List UInt8} {i j : Nat} (hij : i ≤ j) (hj : j < l.length) : l.drop i = (l.take j).drop i ++ (l[j]?.getD 0) :: l.drop (j + 1) := by
  rw [List.getElem?_eq_getElem hj]
  conv => lhs; rw [← List.take_append_drop j l, List.drop_append_of_le_length (by rw [List.length_take]; omega), List.drop_eq_getElem_cons hj]
  rfl
theorem drop_end {l : List UInt8} (i : Nat) : l.drop i = (l.take l.length).drop i := by rw [List.take_length]
theorem none_from {l : List UInt8} {c : UInt8} {i j : Nat} (h : ∀ m, i ≤ m → m < j → l[m]?.getD 0 ≠ c) : c ∉ (l.take j).drop i := by
  intro hm
  obtain ⟨k, hk, e⟩ := List.getElem_of_mem hm
  rw [List.length_drop, List.length_take] at hk
  rw [List.getElem_drop, List.getElem_take] at e
  refine h (i + k) (by omega) (by omega) ?_
  rw [List.getElem?_eq_getElem (by omega)]
  exact e
theorem sub_len {l : List UInt8} {i j : Nat} (hj : j ≤ l.length) : ((l.take j).drop i).length = j - i := by rw [List.length_drop, List.length_take]; omega

/-- what line answers -/
def lnPost (s : ByteArray) (i : Nat) (r : Ending) : Prop :=
  (∃ x, spR 10 (s.data.toList.drop i) = [x] ∧ r = .returned (.tuple #[.string ⟨#[]⟩, .int .i64 (s.size : Int), .bool false])) ∨
  ∃ (x : List UInt8) (j : Nat), i < j ∧ j ≤ s.size ∧ spR 10 (s.data.toList.drop i) = x :: spR 10 (s.data.toList.drop j) ∧ x.length ≤ s.size ∧ r = .returned (.tuple #[.string ⟨x.toArray⟩, .int .i64 (j : Int), .bool true])

set_option maxRecDepth 100000 in
set_option maxHeartbeats 800000 in
theorem line_any (s : ByteArray) (hs : s.size ≤ 900000) (i : Nat) (hi : i ≤ s.size) (w : World) :
    Calls Try.prog 28 #[.string s, .int .i64 i] w fun r w' => lnPost s i r ∧ w' = w := by
  have HL : Hid (s.data.toList.length = s.size) := byP_len s
  go_enter Try.func28, Try.ntmps28
  go_wp2
  go_loop [7] (fun v => ∃ n : Nat, i ≤ n ∧ n ≤ s.size ∧ v = .int .i64 n ∧ ∀ m, i ≤ m → m < n → s.data.toList[m]?.getD 0 ≠ 10) (fun v => s.size - (intOf v).toNat)
  case atStart => exact ⟨i, Nat.le_refl _, hi, rfl, fun m h1 h2 => absurd h2 (by omega)⟩
  case round =>
    obtain ⟨n, hin, hn, rfl, hno⟩ := hrel
    have HNO : Hid _ := hno
    clear hno
    by_cases hlt : n < s.size
    · have HAT : Hid (s.data.toList[n]?.getD 0 = s[n]'hlt) := by show _ = _; rw [byP_at s n hlt]; rfl
      have hq := byP_beq (s[n]'hlt) 10
      have hni : (n : Int) < (s.size : Int) := by omega
      cases he : ((s[n]'hlt) == 10)
      · rw [he] at hq
        have hq' : ((((s[n]'hlt).toNat : Nat) : Int) == 10) = false := hq
        have HF : Hid (¬ (s[n]'hlt) = 10) := by rw [beq_eq_false_iff_ne] at he; exact he
        clear he hq
        go_wp2
        go_round
        case rel => exact ⟨n + 1, by omega, by omega, by go_num, fun m h1 h2 => by
          by_cases hmn : m = n
          · subst hmn; rw [HAT.out]; exact HF.out
          · exact HNO.out m h1 (by omega)⟩
        case measure => simp [intOf]; omega
      · rw [he] at hq
        have hq' : ((((s[n]'hlt).toNat : Nat) : Int) == 10) = true := hq
        have HX : Hid (spR 10 (s.data.toList.drop i) = (s.data.toList.take n).drop i :: spR 10 (s.data.toList.drop (n + 1))) := by
          show _ = _
          rw [drop_at hin (by rw [HL.out]; exact hlt), HAT.out, beq_iff_eq.1 he]
          exact spR_head (none_from HNO.out) _
        have hex : s.extract i n = ⟨((s.data.toList.take n).drop i).toArray⟩ := ex_eq rfl
        have HXL : Hid (((s.data.toList.take n).drop i).length ≤ s.size) := by show _ ≤ _; rw [List.length_drop, List.length_take, HL.out]; omega
        generalize (s.data.toList.take n).drop i = x at *
        clear he hq
        go_wp2
        go_ret3
        exact ⟨Or.inr ⟨x, n + 1, by omega, by omega, HX.out, HXL.out, rfl⟩, rfl⟩
    · have HX : Hid (∃ x, spR 10 (s.data.toList.drop i) = [x]) := by
        refine ⟨_, spR_none ?_⟩
        rw [drop_end]
        exact none_from fun m h1 h2 => HNO.out m h1 (by rw [HL.out] at h2; omega)
      go_wp2
      go_ret3
      obtain ⟨x, hx⟩ := HX.out
      exact ⟨Or.inl ⟨x, hx, rfl⟩, rfl⟩

set_option maxRecDepth 100000 in
set_option maxHeartbeats 800000 in
theorem nameLine_any (s : ByteArray) (hs : s.size ≤ 900000) (w : World) :
    Calls Try.prog 29 #[.string s] w fun r w' => r = .returned (.bool (nmB s.data.toList)) ∧ w' = w := by
  have HL : Hid (s.data.toList.length = s.size) := byP_len s
  have HD : Hid _ := nm_doc s.data.toList
  rw [HL.out] at HD
  have HST : Hid (∀ wx, Calls Try.prog 52 #[.string s, .string ⟨#[108, 105, 116, 109, 117, 115, 32]⟩] wx fun r w' => r = .returned (.bool (s.data.toList.take 7 == nmH)) ∧ w' = wx) := fun wx => starting_any s ⟨#[108, 105, 116, 109, 117, 115, 32]⟩ hs (by decide) wx
  generalize nmB s.data.toList = res at *
  cases hst : (s.data.toList.take 7 == nmH)
  · rw [hst] at HST HD
    have HV : Hid (res = false) := HD.out
    clear hst
    go_enter Try.func29, Try.ntmps29
    go_wp2_with (go_at_call 52; refine Calls.mono (HST.out _) ?_; rintro r w ⟨rfl, rfl⟩)
    go_ret
    exact ⟨by rw [HV.out]; rfl, rfl⟩
  · rw [hst] at HST HD
    clear hst
    by_cases h70 : 70 < s.size
    · have HV : Hid (res = false) := by show _ = _; rw [HD.out, decide_eq_false (show ¬ s.size ≤ 70 by omega)]; rfl
      have h70i : (70 : Int) < (s.size : Int) := by omega
      go_enter Try.func29, Try.ntmps29
      go_wp2_with (go_at_call 52; refine Calls.mono (HST.out _) ?_; rintro r w ⟨rfl, rfl⟩)
      go_ret
      exact ⟨by rw [HV.out]; rfl, rfl⟩
    · have HV : Hid (res = s.data.toList.all okB) := by show _ = _; rw [HD.out, decide_eq_true (show s.size ≤ 70 by omega)]; rfl
      have h70i : ¬ ((70 : Int) < (s.size : Int)) := by omega
      clear HD
      go_enter Try.func29, Try.ntmps29
      go_wp2_with (go_at_call 52; refine Calls.mono (HST.out _) ?_; rintro r w ⟨rfl, rfl⟩)
      go_loop [3] (fun v => ∃ n : Nat, n ≤ s.size ∧ v = .int .i64 n ∧ (s.data.toList.take n).all okB = true) (fun v => s.size - (intOf v).toNat)
      case atStart => exact ⟨0, Nat.zero_le _, rfl, rfl⟩
      case round =>
        obtain ⟨k, hk, rfl, hall⟩ := hrel
        have HA : Hid _ := hall
        clear hall
        by_cases hlt : k < s.size
        · have HS : Hid _ := all_take_succ okB 0 s.data.toList k (by rw [HL.out]; exact hlt)
          have HN : Hid _ := all_no okB 0 s.data.toList k (by rw [HL.out]; exact hlt)
          have HO : Hid (okB (s.data.toList[k]?.getD 0) = (decide (32 ≤ (s[k]'hlt).toNat) && decide ((s[k]'hlt).toNat ≤ 126))) := by show _ = _; rw [byte_get s k hlt]; rfl
          have hki : (k : Int) < (s.size : Int) := by omega
          by_cases q1 : (s[k]'hlt).toNat < 32
          · have HV2 : Hid (res = false) := by show _ = _; rw [HV.out]; exact HN.out (by rw [HO.out, decide_eq_false (by omega)]; rfl)
            have q1i : (((s[k]'hlt).toNat : Nat) : Int) < 32 := by omega
            clear q1
            go_wp2
            go_ret
            exact ⟨by rw [HV2.out]; rfl, rfl⟩
          · have q1i : ¬ ((((s[k]'hlt).toNat : Nat) : Int) < 32) := by omega
            by_cases q2 : 126 < (s[k]'hlt).toNat
            · have HV2 : Hid (res = false) := by show _ = _; rw [HV.out]; exact HN.out (by rw [HO.out, decide_eq_false (show ¬ (s[k]'hlt).toNat ≤ 126 by omega)]; simp)
              have q2i : (126 : Int) < (((s[k]'hlt).toNat : Nat) : Int) := by omega
              clear q1 q2
              go_wp2
              go_ret
              exact ⟨by rw [HV2.out]; rfl, rfl⟩
            · have q2i : ¬ ((126 : Int) < (((s[k]'hlt).toNat : Nat) : Int)) := by omega
              have HO2 : Hid (okB (s.data.toList[k]?.getD 0) = true) := by show _ = _; rw [HO.out, decide_eq_true (by omega), decide_eq_true (by omega)]; rfl
              clear q1 q2
              go_wp2
              go_round
              case rel => exact ⟨k + 1, by omega, by go_num, by rw [HS.out, HA.out, HO2.out]; rfl⟩
              case measure => simp [intOf]; omega
        · have HV2 : Hid (res = true) := by
            show _ = _
            have := HA.out
            rw [List.take_of_length_le (by rw [HL.out]; omega)] at this
            rw [HV.out, this]
          go_wp2
          go_ret
          exact ⟨by rw [HV2.out]; rfl, rfl⟩

end Go.Proofs.Ytokfiflflcfidaa
