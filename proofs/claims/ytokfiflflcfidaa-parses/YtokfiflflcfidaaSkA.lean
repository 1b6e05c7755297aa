import Derived.Test.YtokfiflflcfidaaRows
import Derived.Test.YtokfiflflcfidaaSkM
import Derived.WalkKit
import Derived.WalkSpells
import Derived.WalkLawsBesides
namespace Go.Proofs.Ytokfiflflcfidaa
open Go.RowKit

def isC (x : UInt8) : Bool := decide (0 ≤ numL celS x)
def isH (x : UInt8) : Bool := decide (0 ≤ numL nbrS x)
def isV (x : UInt8) : Bool := decide (0 ≤ numL valS x)
theorem isC_tab : ∀ n : Fin 256, isC (UInt8.ofNat n.val) = (decide (97 ≤ n.val) && decide (n.val ≤ 112)) := by decide +kernel
theorem isV_tab : ∀ n : Fin 256, isV (UInt8.ofNat n.val) = (decide (48 ≤ n.val) && decide (n.val ≤ 57)) := by decide +kernel
theorem isH_tab : ∀ n : Fin 256, isH (UInt8.ofNat n.val) = (isV (UInt8.ofNat n.val) || (decide (97 ≤ n.val) && decide (n.val ≤ 102))) := by decide +kernel
theorem isC_eq (x : UInt8) : isC x = (decide (97 ≤ x.toNat) && decide (x.toNat ≤ 112)) := by
  have := isC_tab ⟨x.toNat, x.toNat_lt⟩
  simpa using this
theorem isV_eq (x : UInt8) : isV x = (decide (48 ≤ x.toNat) && decide (x.toNat ≤ 57)) := by
  have := isV_tab ⟨x.toNat, x.toNat_lt⟩
  simpa using this
theorem isH_eq (x : UInt8) : isH x = (isV x || (decide (97 ≤ x.toNat) && decide (x.toNat ≤ 102))) := by
  have := isH_tab ⟨x.toNat, x.toNat_lt⟩
  simpa using this

set_option maxRecDepth 100000 in
set_option maxHeartbeats 800000 in
theorem isDigit_any (x : UInt8) (w : World) :
    Calls Try.prog 72 #[.int .u8 ((x.toNat : Nat) : Int)] w fun r w' => r = .returned (.bool (isV x)) ∧ w' = w := by
  have HV : Hid _ := isV_eq x
  by_cases h1 : 48 ≤ x.toNat
  · by_cases h2 : x.toNat ≤ 57
    · have HB : Hid (isV x = true) := by show _ = _; rw [HV.out, decide_eq_true h1, decide_eq_true h2]; rfl
      have g1 : (48 : Int) ≤ ((x.toNat : Nat) : Int) := by omega
      have g2 : ((x.toNat : Nat) : Int) ≤ 57 := by omega
      clear h1 h2
      go_enter Try.func72, Try.ntmps72
      go_wp2
      go_ret
      exact ⟨by rw [HB.out]; first | rfl | simp [g2] | simp [g1, g2], rfl⟩
    · have HB : Hid (isV x = false) := by show _ = _; rw [HV.out, decide_eq_false h2]; simp
      have g1 : (48 : Int) ≤ ((x.toNat : Nat) : Int) := by omega
      have g2 : ¬ (((x.toNat : Nat) : Int) ≤ 57) := by omega
      clear h1 h2
      go_enter Try.func72, Try.ntmps72
      go_wp2
      go_ret
      exact ⟨by rw [HB.out]; first | rfl | simp [g2] | simp [g1, g2], rfl⟩
  · have HB : Hid (isV x = false) := by show _ = _; rw [HV.out, decide_eq_false h1]; simp
    have g1 : ¬ ((48 : Int) ≤ ((x.toNat : Nat) : Int)) := by omega
    clear h1
    go_enter Try.func72, Try.ntmps72
    go_wp2
    go_ret
    exact ⟨by rw [HB.out]; first | rfl | simp [g1], rfl⟩

set_option maxRecDepth 100000 in
set_option maxHeartbeats 800000 in
theorem isCell_any (x : UInt8) (w : World) :
    Calls Try.prog 73 #[.int .u8 ((x.toNat : Nat) : Int)] w fun r w' => r = .returned (.bool (isC x)) ∧ w' = w := by
  have HV : Hid _ := isC_eq x
  by_cases h1 : 97 ≤ x.toNat
  · by_cases h2 : x.toNat ≤ 112
    · have HB : Hid (isC x = true) := by show _ = _; rw [HV.out, decide_eq_true h1, decide_eq_true h2]; rfl
      have g1 : (97 : Int) ≤ ((x.toNat : Nat) : Int) := by omega
      have g2 : ((x.toNat : Nat) : Int) ≤ 112 := by omega
      clear h1 h2
      go_enter Try.func73, Try.ntmps73
      go_wp2
      go_ret
      exact ⟨by rw [HB.out]; first | rfl | simp [g2] | simp [g1, g2], rfl⟩
    · have HB : Hid (isC x = false) := by show _ = _; rw [HV.out, decide_eq_false h2]; simp
      have g1 : (97 : Int) ≤ ((x.toNat : Nat) : Int) := by omega
      have g2 : ¬ (((x.toNat : Nat) : Int) ≤ 112) := by omega
      clear h1 h2
      go_enter Try.func73, Try.ntmps73
      go_wp2
      go_ret
      exact ⟨by rw [HB.out]; first | rfl | simp [g2] | simp [g1, g2], rfl⟩
  · have HB : Hid (isC x = false) := by show _ = _; rw [HV.out, decide_eq_false h1]; simp
    have g1 : ¬ ((97 : Int) ≤ ((x.toNat : Nat) : Int)) := by omega
    clear h1
    go_enter Try.func73, Try.ntmps73
    go_wp2
    go_ret
    exact ⟨by rw [HB.out]; first | rfl | simp [g1], rfl⟩

set_option maxRecDepth 100000 in
set_option maxHeartbeats 800000 in
theorem isHex_any (x : UInt8) (w : World) :
    Calls Try.prog 70 #[.int .u8 ((x.toNat : Nat) : Int)] w fun r w' => r = .returned (.bool (isH x)) ∧ w' = w := by
  have HV : Hid _ := isH_eq x
  have HD : Hid _ := fun wx => isDigit_any x wx
  cases hd : isV x
  · rw [hd] at HD HV
    by_cases h1 : 97 ≤ x.toNat
    · by_cases h2 : x.toNat ≤ 102
      · have HB : Hid (isH x = true) := by show _ = _; rw [HV.out, decide_eq_true h1, decide_eq_true h2]; rfl
        have g1 : (97 : Int) ≤ ((x.toNat : Nat) : Int) := by omega
        have g2 : ((x.toNat : Nat) : Int) ≤ 102 := by omega
        clear h1 h2
        go_enter Try.func70, Try.ntmps70
        go_wp2_with fail
        refine Calls.mono (HD.out _) ?_
        rintro r w ⟨rfl, rfl⟩
        go_wp2
        go_ret
        exact ⟨by rw [HB.out]; first | rfl | simp [g2] | simp [g1, g2], rfl⟩
      · have HB : Hid (isH x = false) := by show _ = _; rw [HV.out, decide_eq_false h2]; simp
        have g1 : (97 : Int) ≤ ((x.toNat : Nat) : Int) := by omega
        have g2 : ¬ (((x.toNat : Nat) : Int) ≤ 102) := by omega
        clear h1 h2
        go_enter Try.func70, Try.ntmps70
        go_wp2_with fail
        refine Calls.mono (HD.out _) ?_
        rintro r w ⟨rfl, rfl⟩
        go_wp2
        go_ret
        exact ⟨by rw [HB.out]; first | rfl | simp [g2] | simp [g1, g2], rfl⟩
    · have HB : Hid (isH x = false) := by show _ = _; rw [HV.out, decide_eq_false h1]; simp
      have g1 : ¬ ((97 : Int) ≤ ((x.toNat : Nat) : Int)) := by omega
      clear h1
      go_enter Try.func70, Try.ntmps70
      go_wp2_with fail
      refine Calls.mono (HD.out _) ?_
      rintro r w ⟨rfl, rfl⟩
      go_wp2
      go_ret
      exact ⟨by rw [HB.out]; first | rfl | simp [g1], rfl⟩
  · rw [hd] at HD HV
    have HB : Hid (isH x = true) := by show _ = _; rw [HV.out]; rfl
    go_enter Try.func70, Try.ntmps70
    go_wp2_with fail
    refine Calls.mono (HD.out _) ?_
    rintro r w ⟨rfl, rfl⟩
    go_wp2
    go_ret
    exact ⟨by rw [HB.out]; rfl, rfl⟩

theorem hex_tab : ∀ k : Fin 16, isV (dgN k.val) = decide (k.val < 10) := by decide
set_option maxRecDepth 100000 in
set_option maxHeartbeats 800000 in
theorem hexN_any (k : Nat) (hk : k < 16) (w : World) :
    Calls Try.prog 71 #[.int .u8 (((dgN k).toNat : Nat) : Int)] w fun r w' => r = .returned (.int .i64 (k : Int)) ∧ w' = w := by
  have HD : Hid _ := fun wx => isDigit_any (dgN k) wx
  have hv : isV (dgN k) = decide (k < 10) := hex_tab ⟨k, hk⟩
  rw [hv] at HD
  clear hv
  rcases cases16 hk with rfl | rfl | rfl | rfl | rfl | rfl | rfl | rfl | rfl | rfl | rfl | rfl | rfl | rfl | rfl | rfl
  all_goals
    go_enter Try.func71, Try.ntmps71
    go_wp2_with fail
    refine Calls.mono (HD.out _) ?_
    rintro r w ⟨rfl, rfl⟩
    go_wp2
    go_ret
    exact ⟨rfl, rfl⟩
theorem hex_any (x : UInt8) (hx : isH x = true) (w : World) :
    Calls Try.prog 71 #[.int .u8 ((x.toNat : Nat) : Int)] w fun r w' => r = .returned (.int .i64 (numL nbrS x)) ∧ w' = w := by
  obtain ⟨n, h1, h2, rfl⟩ := nbr_of (of_decide_eq_true hx)
  rw [h2]
  exact hexN_any n h1 w

set_option maxRecDepth 100000 in
set_option maxHeartbeats 1600000 in
theorem put_any (s : ByteArray) (hs : s.size ≤ 9223372036854775807) (w : World) :
    Calls Try.prog 69 #[.string s] w fun r w' => r = .returned (.bool (ci2 s.data.toList)) ∧ w' = w := by
  by_cases h3 : s.size = 3
  · obtain ⟨a, b, c, rfl⟩ := size3 h3
    have hx0 : (⟨#[a, b, c]⟩ : ByteArray)[0]'(show 0 < 3 by decide) = a := rfl
    have hx1 : (⟨#[a, b, c]⟩ : ByteArray)[1]'(show 1 < 3 by decide) = b := rfl
    have hx2 : (⟨#[a, b, c]⟩ : ByteArray)[2]'(show 2 < 3 by decide) = c := rfl
    have FIN : Hid (∀ v : Bool, ci2 [a, b, c] = v → Ending.returned (.bool v) = .returned (.bool (ci2 [a, b, c]))) := fun v h => by rw [h]
    have HDEF : Hid (ci2 [a, b, c] = ((b == 61) && (isC a && isV c))) := rfl
    clear h3 hs
    cases e0 : isC a
    · have HP0 : Hid (∀ wx, Calls Try.prog 73 #[.int .u8 ((a.toNat : Nat) : Int)] wx fun r w' => r = .returned (.bool false) ∧ w' = wx) := fun wx => by have := isCell_any a wx; rw [e0] at this; exact this
      have HV : Hid (ci2 [a, b, c] = false) := by
        show _ = _
        rw [HDEF.out]; simp [e0]
      clear e0
      go_enter Try.func69, Try.ntmps69
      go_wp2_with (first | (go_at_call_of 73 (Value.int .u8 ((a.toNat : Nat) : Int)); refine Calls.mono (HP0.out _) ?_; rintro r w ⟨rfl, rfl⟩))
      go_ret
      exact ⟨FIN.out _ HV.out, rfl⟩
    · cases e1 : (b == 61)
      · have HP0 : Hid (∀ wx, Calls Try.prog 73 #[.int .u8 ((a.toNat : Nat) : Int)] wx fun r w' => r = .returned (.bool true) ∧ w' = wx) := fun wx => by have := isCell_any a wx; rw [e0] at this; exact this
        have q1 : (((b.toNat : Nat) : Int) == 61) = false := (byP_beq b 61).trans e1
        have HV : Hid (ci2 [a, b, c] = false) := by
          show _ = _
          rw [HDEF.out]; simp [e0, e1]
        clear e0 e1
        go_enter Try.func69, Try.ntmps69
        go_wp2_with (first | (go_at_call_of 73 (Value.int .u8 ((a.toNat : Nat) : Int)); refine Calls.mono (HP0.out _) ?_; rintro r w ⟨rfl, rfl⟩))
        go_ret
        exact ⟨FIN.out _ HV.out, rfl⟩
      · cases e2 : isV c
        · have HP0 : Hid (∀ wx, Calls Try.prog 73 #[.int .u8 ((a.toNat : Nat) : Int)] wx fun r w' => r = .returned (.bool true) ∧ w' = wx) := fun wx => by have := isCell_any a wx; rw [e0] at this; exact this
          have q1 : (((b.toNat : Nat) : Int) == 61) = true := (byP_beq b 61).trans e1
          have HP2 : Hid (∀ wx, Calls Try.prog 72 #[.int .u8 ((c.toNat : Nat) : Int)] wx fun r w' => r = .returned (.bool false) ∧ w' = wx) := fun wx => by have := isDigit_any c wx; rw [e2] at this; exact this
          have HV : Hid (ci2 [a, b, c] = false) := by
            show _ = _
            rw [HDEF.out]; simp [e0, e1, e2]
          clear e0 e1 e2
          go_enter Try.func69, Try.ntmps69
          go_wp2_with (first | (go_at_call_of 73 (Value.int .u8 ((a.toNat : Nat) : Int)); refine Calls.mono (HP0.out _) ?_; rintro r w ⟨rfl, rfl⟩) | (go_at_call_of 72 (Value.int .u8 ((c.toNat : Nat) : Int)); refine Calls.mono (HP2.out _) ?_; rintro r w ⟨rfl, rfl⟩))
          go_ret
          exact ⟨FIN.out _ HV.out, rfl⟩
        · have HP0 : Hid (∀ wx, Calls Try.prog 73 #[.int .u8 ((a.toNat : Nat) : Int)] wx fun r w' => r = .returned (.bool true) ∧ w' = wx) := fun wx => by have := isCell_any a wx; rw [e0] at this; exact this
          have q1 : (((b.toNat : Nat) : Int) == 61) = true := (byP_beq b 61).trans e1
          have HP2 : Hid (∀ wx, Calls Try.prog 72 #[.int .u8 ((c.toNat : Nat) : Int)] wx fun r w' => r = .returned (.bool true) ∧ w' = wx) := fun wx => by have := isDigit_any c wx; rw [e2] at this; exact this
          have HV : Hid (ci2 [a, b, c] = true) := by
            show _ = _
            rw [HDEF.out]; simp [e0, e1, e2]
          clear e0 e1 e2
          go_enter Try.func69, Try.ntmps69
          go_wp2_with (first | (go_at_call_of 73 (Value.int .u8 ((a.toNat : Nat) : Int)); refine Calls.mono (HP0.out _) ?_; rintro r w ⟨rfl, rfl⟩) | (go_at_call_of 72 (Value.int .u8 ((c.toNat : Nat) : Int)); refine Calls.mono (HP2.out _) ?_; rintro r w ⟨rfl, rfl⟩))
          go_ret
          exact ⟨FIN.out _ HV.out, rfl⟩
  · have HV : Hid _ := ci_no (l := s.data.toList) (by rw [byP_len]; exact h3)
    have hne : ((s.size : Int) == 3) = false := by rw [beq_eq_false_iff_ne]; omega
    clear h3
    go_enter Try.func69, Try.ntmps69
    go_wp2
    go_ret
    exact ⟨by rw [HV.out.2.2]; rfl, rfl⟩

set_option maxRecDepth 100000 in
set_option maxHeartbeats 1600000 in
theorem dinsWord_any (s : ByteArray) (hs : s.size ≤ 9223372036854775807) (w : World) :
    Calls Try.prog 55 #[.string s] w fun r w' => r = .returned (.bool (insB s.data.toList)) ∧ w' = w := by
  by_cases hf : s.data.toList = fenL
  · obtain rfl : s = ⟨#[102, 101, 110, 99, 101]⟩ := by
      obtain ⟨d⟩ := s
      congr 1
      exact Array.toList_inj.1 hf
    clear hf hs
    go_enter Try.func55, Try.ntmps55
    go_wp2
    go_ret
    exact ⟨rfl, rfl⟩
  · have hqf : (s.toList == [102, 101, 110, 99, 101]) = false := by rw [ByteArray.toList_eq, beq_eq_false_iff_ne]; exact hf
    have HPT : Hid _ := fun wx => put_any s hs wx
    by_cases h4 : s.size = 4
    · obtain ⟨a, b, c, d, rfl⟩ := size4 h4
      have hx0 : (⟨#[a, b, c, d]⟩ : ByteArray)[0]'(show 0 < 4 by decide) = a := rfl
      have hx1 : (⟨#[a, b, c, d]⟩ : ByteArray)[1]'(show 1 < 4 by decide) = b := rfl
      have hx2 : (⟨#[a, b, c, d]⟩ : ByteArray)[2]'(show 2 < 4 by decide) = c := rfl
      have hx3 : (⟨#[a, b, c, d]⟩ : ByteArray)[3]'(show 3 < 4 by decide) = d := rfl
      have FIN : Hid (∀ v : Bool, insB [a, b, c, d] = v → Ending.returned (.bool v) = .returned (.bool (insB [a, b, c, d]))) := fun v h => by rw [h]
      have HDEF : Hid (insB [a, b, c, d] = ((a == 114) && ((c == 61) && (isH b && isC d)))) := by
        show _ = _
        rw [insR_four.2]
        by_cases h1 : a = 114
        · by_cases h2 : c = 61
          · rw [if_pos ⟨h1, h2⟩, h1, h2]; rfl
          · rw [if_neg (fun h => h2 h.2), beq_eq_false_iff_ne.2 h2]; simp
        · rw [if_neg (fun h => h1 h.1), beq_eq_false_iff_ne.2 h1]; simp
      have HPF : Hid (∀ wx, Calls Try.prog 69 #[.string ⟨#[a, b, c, d]⟩] wx fun r w' => r = .returned (.bool false) ∧ w' = wx) := fun wx => HPT.out wx
      clear h4 hs hf HPT
      cases e0 : (a == 114)
      · have q0 : (((a.toNat : Nat) : Int) == 114) = false := (byP_beq a 114).trans e0
        have HV : Hid (insB [a, b, c, d] = false) := by
          show _ = _
          rw [HDEF.out]; simp [e0]
        clear e0
        go_enter Try.func55, Try.ntmps55
        go_wp2_with (first | (go_at_call 69; refine Calls.mono (HPF.out _) ?_; rintro r w ⟨rfl, rfl⟩))
        go_ret
        exact ⟨FIN.out _ HV.out, rfl⟩
      · cases e1 : isH b
        · have q0 : (((a.toNat : Nat) : Int) == 114) = true := (byP_beq a 114).trans e0
          have HP1 : Hid (∀ wx, Calls Try.prog 70 #[.int .u8 ((b.toNat : Nat) : Int)] wx fun r w' => r = .returned (.bool false) ∧ w' = wx) := fun wx => by have := isHex_any b wx; rw [e1] at this; exact this
          have HV : Hid (insB [a, b, c, d] = false) := by
            show _ = _
            rw [HDEF.out]; simp [e0, e1]
          clear e0 e1
          go_enter Try.func55, Try.ntmps55
          go_wp2_with (first | (go_at_call_of 70 (Value.int .u8 ((b.toNat : Nat) : Int)); refine Calls.mono (HP1.out _) ?_; rintro r w ⟨rfl, rfl⟩) | (go_at_call 69; refine Calls.mono (HPF.out _) ?_; rintro r w ⟨rfl, rfl⟩))
          go_ret
          exact ⟨FIN.out _ HV.out, rfl⟩
        · cases e2 : (c == 61)
          · have q0 : (((a.toNat : Nat) : Int) == 114) = true := (byP_beq a 114).trans e0
            have HP1 : Hid (∀ wx, Calls Try.prog 70 #[.int .u8 ((b.toNat : Nat) : Int)] wx fun r w' => r = .returned (.bool true) ∧ w' = wx) := fun wx => by have := isHex_any b wx; rw [e1] at this; exact this
            have q2 : (((c.toNat : Nat) : Int) == 61) = false := (byP_beq c 61).trans e2
            have HV : Hid (insB [a, b, c, d] = false) := by
              show _ = _
              rw [HDEF.out]; simp [e0, e1, e2]
            clear e0 e1 e2
            go_enter Try.func55, Try.ntmps55
            go_wp2_with (first | (go_at_call_of 70 (Value.int .u8 ((b.toNat : Nat) : Int)); refine Calls.mono (HP1.out _) ?_; rintro r w ⟨rfl, rfl⟩) | (go_at_call 69; refine Calls.mono (HPF.out _) ?_; rintro r w ⟨rfl, rfl⟩))
            go_ret
            exact ⟨FIN.out _ HV.out, rfl⟩
          · cases e3 : isC d
            · have q0 : (((a.toNat : Nat) : Int) == 114) = true := (byP_beq a 114).trans e0
              have HP1 : Hid (∀ wx, Calls Try.prog 70 #[.int .u8 ((b.toNat : Nat) : Int)] wx fun r w' => r = .returned (.bool true) ∧ w' = wx) := fun wx => by have := isHex_any b wx; rw [e1] at this; exact this
              have q2 : (((c.toNat : Nat) : Int) == 61) = true := (byP_beq c 61).trans e2
              have HP3 : Hid (∀ wx, Calls Try.prog 73 #[.int .u8 ((d.toNat : Nat) : Int)] wx fun r w' => r = .returned (.bool false) ∧ w' = wx) := fun wx => by have := isCell_any d wx; rw [e3] at this; exact this
              have HV : Hid (insB [a, b, c, d] = false) := by
                show _ = _
                rw [HDEF.out]; simp [e0, e1, e2, e3]
              clear e0 e1 e2 e3
              go_enter Try.func55, Try.ntmps55
              go_wp2_with (first | (go_at_call_of 70 (Value.int .u8 ((b.toNat : Nat) : Int)); refine Calls.mono (HP1.out _) ?_; rintro r w ⟨rfl, rfl⟩) | (go_at_call_of 73 (Value.int .u8 ((d.toNat : Nat) : Int)); refine Calls.mono (HP3.out _) ?_; rintro r w ⟨rfl, rfl⟩) | (go_at_call 69; refine Calls.mono (HPF.out _) ?_; rintro r w ⟨rfl, rfl⟩))
              go_ret
              exact ⟨FIN.out _ HV.out, rfl⟩
            · have q0 : (((a.toNat : Nat) : Int) == 114) = true := (byP_beq a 114).trans e0
              have HP1 : Hid (∀ wx, Calls Try.prog 70 #[.int .u8 ((b.toNat : Nat) : Int)] wx fun r w' => r = .returned (.bool true) ∧ w' = wx) := fun wx => by have := isHex_any b wx; rw [e1] at this; exact this
              have q2 : (((c.toNat : Nat) : Int) == 61) = true := (byP_beq c 61).trans e2
              have HP3 : Hid (∀ wx, Calls Try.prog 73 #[.int .u8 ((d.toNat : Nat) : Int)] wx fun r w' => r = .returned (.bool true) ∧ w' = wx) := fun wx => by have := isCell_any d wx; rw [e3] at this; exact this
              have HV : Hid (insB [a, b, c, d] = true) := by
                show _ = _
                rw [HDEF.out]; simp [e0, e1, e2, e3]
              clear e0 e1 e2 e3
              go_enter Try.func55, Try.ntmps55
              go_wp2_with (first | (go_at_call_of 70 (Value.int .u8 ((b.toNat : Nat) : Int)); refine Calls.mono (HP1.out _) ?_; rintro r w ⟨rfl, rfl⟩) | (go_at_call_of 73 (Value.int .u8 ((d.toNat : Nat) : Int)); refine Calls.mono (HP3.out _) ?_; rintro r w ⟨rfl, rfl⟩) | (go_at_call 69; refine Calls.mono (HPF.out _) ?_; rintro r w ⟨rfl, rfl⟩))
              go_ret
              exact ⟨FIN.out _ HV.out, rfl⟩
    · have HI : Hid (insB s.data.toList = ci2 s.data.toList) := (insR_else hf (by rw [byP_len]; exact h4)).2
      have hne : ((s.size : Int) == 4) = false := by rw [beq_eq_false_iff_ne]; omega
      clear h4 hf
      rw [HI.out]
      generalize ci2 s.data.toList = ok at *
      cases ok
      · go_enter Try.func55, Try.ntmps55
        go_wp2_with (go_at_call 69; refine Calls.mono (HPT.out _) ?_; rintro r w ⟨rfl, rfl⟩)
        go_ret
        exact ⟨rfl, rfl⟩
      · go_enter Try.func55, Try.ntmps55
        go_wp2_with (go_at_call 69; refine Calls.mono (HPT.out _) ?_; rintro r w ⟨rfl, rfl⟩)
        go_ret
        exact ⟨rfl, rfl⟩

theorem clW_six (n : Nat) (a b c d e f : UInt8) : clW n [a, b, c, d, e, f] = (isH a && (decide (numL nbrS a < (n : Int)) && ((b == 58) && ((c == 114) && (isH d && ((e == 61) && isV f)))))) := by
  unfold clW clmB clmR
  by_cases hq : b = 58 ∧ c = 114 ∧ e = 61
  · simp only [if_pos hq]
    obtain ⟨rfl, rfl, rfl⟩ := hq
    simp only [beq_self_eq_true, Bool.true_and, isH, isV]
    cases h1 : decide (0 ≤ numL nbrS a)
    · rfl
    · cases h2 : decide (0 ≤ numL nbrS d)
      · simp
      · cases h3 : decide (0 ≤ numL valS f)
        · simp
        · obtain ⟨na, a1, a2, _⟩ := nbr_of (of_decide_eq_true h1)
          obtain ⟨nd, d1, d2, _⟩ := nbr_of (of_decide_eq_true h2)
          obtain ⟨nf, f1, f2, _⟩ := val_of (of_decide_eq_true h3)
          simp only [Bool.true_and, Bool.and_true, sndK]
          rw [a2, d2, f2, Bool.eq_iff_iff]
          simp only [Bool.and_eq_true, Bool.or_eq_true, decide_eq_true_eq, beq_iff_eq, and_true]
          constructor
          · intro h; rcases h.2 with h | h <;> omega
          · intro h; exact ⟨by omega, Or.inr ⟨by omega, by omega⟩⟩
  · have hr : ((b == 58) && ((c == 114) && (isH d && ((e == 61) && isV f)))) = false := by
      by_cases h1 : b = 58
      · by_cases h2 : c = 114
        · by_cases h3 : e = 61
          · exact absurd ⟨h1, h2, h3⟩ hq
          · rw [beq_eq_false_iff_ne.2 h3]; simp
        · rw [beq_eq_false_iff_ne.2 h2]; simp
      · rw [beq_eq_false_iff_ne.2 h1]; simp
    simp only [if_neg hq, hr, Bool.and_false]
    rfl
theorem clW_else {n : Nat} {l : List UInt8} (h6 : l.length ≠ 6) : clW n l = ci2 l := by
  have h1 : clmB l = ci2 l := by
    match l, h6 with
    | [], _ => rfl
    | [_], _ => rfl
    | [_, _], _ => rfl
    | [_, _, _], _ => rfl
    | [_, _, _, _], _ => rfl
    | [_, _, _, _, _], _ => rfl
    | [_, _, _, _, _, _], h => exact absurd rfl h
    | _ :: _ :: _ :: _ :: _ :: _ :: _ :: _, _ => rfl
  unfold clW
  cases hb : ci2 l
  · rw [h1, hb]; rfl
  · rw [h1, hb, (clm_back (h1.trans hb)).2 hb n]; rfl

set_option maxRecDepth 100000 in
set_option maxHeartbeats 3200000 in
theorem dclaimWord_any (s : ByteArray) (hs : s.size ≤ 9223372036854775807) (n : Nat) (w : World) :
    Calls Try.prog 54 #[.string s, .int .i64 n] w fun r w' => r = .returned (.bool (clW n s.data.toList)) ∧ w' = w := by
  have HPT : Hid _ := fun wx => put_any s hs wx
  by_cases h6 : s.size = 6
  · obtain ⟨a, b, c, d, e, f, rfl⟩ := size6 h6
    have hx0 : (⟨#[a, b, c, d, e, f]⟩ : ByteArray)[0]'(show 0 < 6 by decide) = a := rfl
    have hx1 : (⟨#[a, b, c, d, e, f]⟩ : ByteArray)[1]'(show 1 < 6 by decide) = b := rfl
    have hx2 : (⟨#[a, b, c, d, e, f]⟩ : ByteArray)[2]'(show 2 < 6 by decide) = c := rfl
    have hx3 : (⟨#[a, b, c, d, e, f]⟩ : ByteArray)[3]'(show 3 < 6 by decide) = d := rfl
    have hx4 : (⟨#[a, b, c, d, e, f]⟩ : ByteArray)[4]'(show 4 < 6 by decide) = e := rfl
    have hx5 : (⟨#[a, b, c, d, e, f]⟩ : ByteArray)[5]'(show 5 < 6 by decide) = f := rfl
    have FIN : Hid (∀ v : Bool, clW n [a, b, c, d, e, f] = v → Ending.returned (.bool v) = .returned (.bool (clW n [a, b, c, d, e, f]))) := fun v h => by rw [h]
    have HDEF : Hid _ := clW_six n a b c d e f
    have HPF : Hid (∀ wx, Calls Try.prog 69 #[.string ⟨#[a, b, c, d, e, f]⟩] wx fun r w' => r = .returned (.bool false) ∧ w' = wx) := fun wx => HPT.out wx
    clear h6 hs HPT
    cases e0 : isH a
    · have HP0 : Hid (∀ wx, Calls Try.prog 70 #[.int .u8 ((a.toNat : Nat) : Int)] wx fun r w' => r = .returned (.bool false) ∧ w' = wx) := fun wx => by have := isHex_any a wx; rw [e0] at this; exact this
      have HV : Hid (clW n [a, b, c, d, e, f] = false) := by
        show _ = _
        rw [HDEF.out]; simp [e0]
      clear e0
      go_enter Try.func54, Try.ntmps54
      go_wp2_with (first | (go_at_call_of 70 (Value.int .u8 ((a.toNat : Nat) : Int)); refine Calls.mono (HP0.out _) ?_; rintro r w ⟨rfl, rfl⟩) | (go_at_call 69; refine Calls.mono (HPF.out _) ?_; rintro r w ⟨rfl, rfl⟩))
      go_ret
      exact ⟨FIN.out _ HV.out, rfl⟩
    · cases e1 : decide (numL nbrS a < (n : Int))
      · have HP0 : Hid (∀ wx, Calls Try.prog 70 #[.int .u8 ((a.toNat : Nat) : Int)] wx fun r w' => r = .returned (.bool true) ∧ w' = wx) := fun wx => by have := isHex_any a wx; rw [e0] at this; exact this
        have q1 : ¬ (numL nbrS a < (n : Int)) := of_decide_eq_false e1
        have HX1 : Hid _ := fun wx => hex_any a e0 wx
        have HV : Hid (clW n [a, b, c, d, e, f] = false) := by
          show _ = _
          rw [HDEF.out]; simp [e0, e1]
        clear e0 e1
        go_enter Try.func54, Try.ntmps54
        go_wp2_with (first | (go_at_call_of 70 (Value.int .u8 ((a.toNat : Nat) : Int)); refine Calls.mono (HP0.out _) ?_; rintro r w ⟨rfl, rfl⟩) | (go_at_call_of 71 (Value.int .u8 ((a.toNat : Nat) : Int)); refine Calls.mono (HX1.out _) ?_; rintro r w ⟨rfl, rfl⟩) | (go_at_call 69; refine Calls.mono (HPF.out _) ?_; rintro r w ⟨rfl, rfl⟩))
        go_ret
        exact ⟨FIN.out _ HV.out, rfl⟩
      · cases e2 : (b == 58)
        · have HP0 : Hid (∀ wx, Calls Try.prog 70 #[.int .u8 ((a.toNat : Nat) : Int)] wx fun r w' => r = .returned (.bool true) ∧ w' = wx) := fun wx => by have := isHex_any a wx; rw [e0] at this; exact this
          have q1 : (numL nbrS a < (n : Int)) := of_decide_eq_true e1
          have q2 : (((b.toNat : Nat) : Int) == 58) = false := (byP_beq b 58).trans e2
          have HX1 : Hid _ := fun wx => hex_any a e0 wx
          have HV : Hid (clW n [a, b, c, d, e, f] = false) := by
            show _ = _
            rw [HDEF.out]; simp [e0, e1, e2]
          clear e0 e1 e2
          go_enter Try.func54, Try.ntmps54
          go_wp2_with (first | (go_at_call_of 70 (Value.int .u8 ((a.toNat : Nat) : Int)); refine Calls.mono (HP0.out _) ?_; rintro r w ⟨rfl, rfl⟩) | (go_at_call_of 71 (Value.int .u8 ((a.toNat : Nat) : Int)); refine Calls.mono (HX1.out _) ?_; rintro r w ⟨rfl, rfl⟩) | (go_at_call 69; refine Calls.mono (HPF.out _) ?_; rintro r w ⟨rfl, rfl⟩))
          go_ret
          exact ⟨FIN.out _ HV.out, rfl⟩
        · cases e3 : (c == 114)
          · have HP0 : Hid (∀ wx, Calls Try.prog 70 #[.int .u8 ((a.toNat : Nat) : Int)] wx fun r w' => r = .returned (.bool true) ∧ w' = wx) := fun wx => by have := isHex_any a wx; rw [e0] at this; exact this
            have q1 : (numL nbrS a < (n : Int)) := of_decide_eq_true e1
            have q2 : (((b.toNat : Nat) : Int) == 58) = true := (byP_beq b 58).trans e2
            have q3 : (((c.toNat : Nat) : Int) == 114) = false := (byP_beq c 114).trans e3
            have HX1 : Hid _ := fun wx => hex_any a e0 wx
            have HV : Hid (clW n [a, b, c, d, e, f] = false) := by
              show _ = _
              rw [HDEF.out]; simp [e0, e1, e2, e3]
            clear e0 e1 e2 e3
            go_enter Try.func54, Try.ntmps54
            go_wp2_with (first | (go_at_call_of 70 (Value.int .u8 ((a.toNat : Nat) : Int)); refine Calls.mono (HP0.out _) ?_; rintro r w ⟨rfl, rfl⟩) | (go_at_call_of 71 (Value.int .u8 ((a.toNat : Nat) : Int)); refine Calls.mono (HX1.out _) ?_; rintro r w ⟨rfl, rfl⟩) | (go_at_call 69; refine Calls.mono (HPF.out _) ?_; rintro r w ⟨rfl, rfl⟩))
            go_ret
            exact ⟨FIN.out _ HV.out, rfl⟩
          · cases e4 : isH d
            · have HP0 : Hid (∀ wx, Calls Try.prog 70 #[.int .u8 ((a.toNat : Nat) : Int)] wx fun r w' => r = .returned (.bool true) ∧ w' = wx) := fun wx => by have := isHex_any a wx; rw [e0] at this; exact this
              have q1 : (numL nbrS a < (n : Int)) := of_decide_eq_true e1
              have q2 : (((b.toNat : Nat) : Int) == 58) = true := (byP_beq b 58).trans e2
              have q3 : (((c.toNat : Nat) : Int) == 114) = true := (byP_beq c 114).trans e3
              have HP4 : Hid (∀ wx, Calls Try.prog 70 #[.int .u8 ((d.toNat : Nat) : Int)] wx fun r w' => r = .returned (.bool false) ∧ w' = wx) := fun wx => by have := isHex_any d wx; rw [e4] at this; exact this
              have HX1 : Hid _ := fun wx => hex_any a e0 wx
              have HV : Hid (clW n [a, b, c, d, e, f] = false) := by
                show _ = _
                rw [HDEF.out]; simp [e0, e1, e2, e3, e4]
              clear e0 e1 e2 e3 e4
              go_enter Try.func54, Try.ntmps54
              go_wp2_with (first | (go_at_call_of 70 (Value.int .u8 ((a.toNat : Nat) : Int)); refine Calls.mono (HP0.out _) ?_; rintro r w ⟨rfl, rfl⟩) | (go_at_call_of 71 (Value.int .u8 ((a.toNat : Nat) : Int)); refine Calls.mono (HX1.out _) ?_; rintro r w ⟨rfl, rfl⟩) | (go_at_call_of 70 (Value.int .u8 ((d.toNat : Nat) : Int)); refine Calls.mono (HP4.out _) ?_; rintro r w ⟨rfl, rfl⟩) | (go_at_call 69; refine Calls.mono (HPF.out _) ?_; rintro r w ⟨rfl, rfl⟩))
              go_ret
              exact ⟨FIN.out _ HV.out, rfl⟩
            · cases e5 : (e == 61)
              · have HP0 : Hid (∀ wx, Calls Try.prog 70 #[.int .u8 ((a.toNat : Nat) : Int)] wx fun r w' => r = .returned (.bool true) ∧ w' = wx) := fun wx => by have := isHex_any a wx; rw [e0] at this; exact this
                have q1 : (numL nbrS a < (n : Int)) := of_decide_eq_true e1
                have q2 : (((b.toNat : Nat) : Int) == 58) = true := (byP_beq b 58).trans e2
                have q3 : (((c.toNat : Nat) : Int) == 114) = true := (byP_beq c 114).trans e3
                have HP4 : Hid (∀ wx, Calls Try.prog 70 #[.int .u8 ((d.toNat : Nat) : Int)] wx fun r w' => r = .returned (.bool true) ∧ w' = wx) := fun wx => by have := isHex_any d wx; rw [e4] at this; exact this
                have q5 : (((e.toNat : Nat) : Int) == 61) = false := (byP_beq e 61).trans e5
                have HX1 : Hid _ := fun wx => hex_any a e0 wx
                have HV : Hid (clW n [a, b, c, d, e, f] = false) := by
                  show _ = _
                  rw [HDEF.out]; simp [e0, e1, e2, e3, e4, e5]
                clear e0 e1 e2 e3 e4 e5
                go_enter Try.func54, Try.ntmps54
                go_wp2_with (first | (go_at_call_of 70 (Value.int .u8 ((a.toNat : Nat) : Int)); refine Calls.mono (HP0.out _) ?_; rintro r w ⟨rfl, rfl⟩) | (go_at_call_of 71 (Value.int .u8 ((a.toNat : Nat) : Int)); refine Calls.mono (HX1.out _) ?_; rintro r w ⟨rfl, rfl⟩) | (go_at_call_of 70 (Value.int .u8 ((d.toNat : Nat) : Int)); refine Calls.mono (HP4.out _) ?_; rintro r w ⟨rfl, rfl⟩) | (go_at_call 69; refine Calls.mono (HPF.out _) ?_; rintro r w ⟨rfl, rfl⟩))
                go_ret
                exact ⟨FIN.out _ HV.out, rfl⟩
              · cases e6 : isV f
                · have HP0 : Hid (∀ wx, Calls Try.prog 70 #[.int .u8 ((a.toNat : Nat) : Int)] wx fun r w' => r = .returned (.bool true) ∧ w' = wx) := fun wx => by have := isHex_any a wx; rw [e0] at this; exact this
                  have q1 : (numL nbrS a < (n : Int)) := of_decide_eq_true e1
                  have q2 : (((b.toNat : Nat) : Int) == 58) = true := (byP_beq b 58).trans e2
                  have q3 : (((c.toNat : Nat) : Int) == 114) = true := (byP_beq c 114).trans e3
                  have HP4 : Hid (∀ wx, Calls Try.prog 70 #[.int .u8 ((d.toNat : Nat) : Int)] wx fun r w' => r = .returned (.bool true) ∧ w' = wx) := fun wx => by have := isHex_any d wx; rw [e4] at this; exact this
                  have q5 : (((e.toNat : Nat) : Int) == 61) = true := (byP_beq e 61).trans e5
                  have HP6 : Hid (∀ wx, Calls Try.prog 72 #[.int .u8 ((f.toNat : Nat) : Int)] wx fun r w' => r = .returned (.bool false) ∧ w' = wx) := fun wx => by have := isDigit_any f wx; rw [e6] at this; exact this
                  have HX1 : Hid _ := fun wx => hex_any a e0 wx
                  have HV : Hid (clW n [a, b, c, d, e, f] = false) := by
                    show _ = _
                    rw [HDEF.out]; simp [e0, e1, e2, e3, e4, e5, e6]
                  clear e0 e1 e2 e3 e4 e5 e6
                  go_enter Try.func54, Try.ntmps54
                  go_wp2_with (first | (go_at_call_of 70 (Value.int .u8 ((a.toNat : Nat) : Int)); refine Calls.mono (HP0.out _) ?_; rintro r w ⟨rfl, rfl⟩) | (go_at_call_of 71 (Value.int .u8 ((a.toNat : Nat) : Int)); refine Calls.mono (HX1.out _) ?_; rintro r w ⟨rfl, rfl⟩) | (go_at_call_of 70 (Value.int .u8 ((d.toNat : Nat) : Int)); refine Calls.mono (HP4.out _) ?_; rintro r w ⟨rfl, rfl⟩) | (go_at_call_of 72 (Value.int .u8 ((f.toNat : Nat) : Int)); refine Calls.mono (HP6.out _) ?_; rintro r w ⟨rfl, rfl⟩) | (go_at_call 69; refine Calls.mono (HPF.out _) ?_; rintro r w ⟨rfl, rfl⟩))
                  go_ret
                  exact ⟨FIN.out _ HV.out, rfl⟩
                · have HP0 : Hid (∀ wx, Calls Try.prog 70 #[.int .u8 ((a.toNat : Nat) : Int)] wx fun r w' => r = .returned (.bool true) ∧ w' = wx) := fun wx => by have := isHex_any a wx; rw [e0] at this; exact this
                  have q1 : (numL nbrS a < (n : Int)) := of_decide_eq_true e1
                  have q2 : (((b.toNat : Nat) : Int) == 58) = true := (byP_beq b 58).trans e2
                  have q3 : (((c.toNat : Nat) : Int) == 114) = true := (byP_beq c 114).trans e3
                  have HP4 : Hid (∀ wx, Calls Try.prog 70 #[.int .u8 ((d.toNat : Nat) : Int)] wx fun r w' => r = .returned (.bool true) ∧ w' = wx) := fun wx => by have := isHex_any d wx; rw [e4] at this; exact this
                  have q5 : (((e.toNat : Nat) : Int) == 61) = true := (byP_beq e 61).trans e5
                  have HP6 : Hid (∀ wx, Calls Try.prog 72 #[.int .u8 ((f.toNat : Nat) : Int)] wx fun r w' => r = .returned (.bool true) ∧ w' = wx) := fun wx => by have := isDigit_any f wx; rw [e6] at this; exact this
                  have HX1 : Hid _ := fun wx => hex_any a e0 wx
                  have HV : Hid (clW n [a, b, c, d, e, f] = true) := by
                    show _ = _
                    rw [HDEF.out]; simp [e0, e1, e2, e3, e4, e5, e6]
                  clear e0 e1 e2 e3 e4 e5 e6
                  go_enter Try.func54, Try.ntmps54
                  go_wp2_with (first | (go_at_call_of 70 (Value.int .u8 ((a.toNat : Nat) : Int)); refine Calls.mono (HP0.out _) ?_; rintro r w ⟨rfl, rfl⟩) | (go_at_call_of 71 (Value.int .u8 ((a.toNat : Nat) : Int)); refine Calls.mono (HX1.out _) ?_; rintro r w ⟨rfl, rfl⟩) | (go_at_call_of 70 (Value.int .u8 ((d.toNat : Nat) : Int)); refine Calls.mono (HP4.out _) ?_; rintro r w ⟨rfl, rfl⟩) | (go_at_call_of 72 (Value.int .u8 ((f.toNat : Nat) : Int)); refine Calls.mono (HP6.out _) ?_; rintro r w ⟨rfl, rfl⟩) | (go_at_call 69; refine Calls.mono (HPF.out _) ?_; rintro r w ⟨rfl, rfl⟩))
                  go_ret
                  exact ⟨FIN.out _ HV.out, rfl⟩
  · have HI : Hid (clW n s.data.toList = ci2 s.data.toList) := clW_else (by rw [byP_len]; exact h6)
    have hne : ((s.size : Int) == 6) = false := by rw [beq_eq_false_iff_ne]; omega
    clear h6
    rw [HI.out]
    generalize ci2 s.data.toList = ok at *
    cases ok
    · go_enter Try.func54, Try.ntmps54
      go_wp2_with (go_at_call 69; refine Calls.mono (HPT.out _) ?_; rintro r w ⟨rfl, rfl⟩)
      go_ret
      exact ⟨rfl, rfl⟩
    · go_enter Try.func54, Try.ntmps54
      go_wp2_with (go_at_call 69; refine Calls.mono (HPT.out _) ?_; rintro r w ⟨rfl, rfl⟩)
      go_ret
      exact ⟨rfl, rfl⟩

end Go.Proofs.Ytokfiflflcfidaa
