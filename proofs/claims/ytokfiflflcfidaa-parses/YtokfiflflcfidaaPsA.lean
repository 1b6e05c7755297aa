import Derived.Test.YtokfiflflcfidaaRows
import Derived.Test.YtokfiflflcfidaaPsM
import Derived.Lib.SmallJoins
import Derived.Lib.IndexBytes
import Derived.WalkKit
import Derived.WalkSpells
import Derived.WalkLawsBesides
namespace Go.Proofs.Ytokfiflflcfidaa
open Go.RowKit

theorem byP_at (s : ByteArray) (i : Nat) (h : i < s.size) : s.data.toList[i]? = some s[i] := by rw [Lib.data_getElem? s i h]
theorem byP_len (s : ByteArray) : s.data.toList.length = s.size := by rw [Array.length_toList]; rfl
theorem byP_beq (a b : UInt8) : (((a.toNat : Nat) : Int) == ((b.toNat : Nat) : Int)) = (a == b) := by
  rw [Bool.eq_iff_iff, beq_iff_eq, beq_iff_eq]
  constructor
  · intro h; exact UInt8.toNat_inj.1 (by omega)
  · rintro rfl; rfl

set_option maxRecDepth 100000 in
set_option maxHeartbeats 800000 in
theorem numberOf_any (signs : ByteArray) (hs : signs.size ≤ 1000) (x : UInt8) (w : World) :
    Calls Try.prog 84 #[.string signs, .int .u8 ((x.toNat : Nat) : Int)] w fun r w' => r = .returned (.int .i64 (numL signs.data.toList x)) ∧ w' = w := by
  go_enter Try.func84, Try.ntmps84
  go_wp2
  go_loop [5] (fun i => ∃ n : Nat, n ≤ signs.size ∧ i = .int .i64 n ∧ ∀ m, m < n → signs.data.toList[m]? ≠ some x) (fun i => signs.size - (intOf i).toNat)
  case atStart => exact ⟨0, Nat.zero_le _, rfl, fun m hm => absurd hm (by omega)⟩
  case round =>
    obtain ⟨n, hn, rfl, hno⟩ := hrel
    have HNO : Hid _ := hno
    clear hno
    by_cases hlt : n < signs.size
    · have hk : n < signs.size := hlt
      have HAT : Hid _ := byP_at signs n hlt
      have hq := byP_beq (signs[n]'hlt) x
      cases he : ((signs[n]'hlt) == x)
      · rw [he] at hq
        have HF : Hid (¬ (signs[n]'hlt) = x) := by rw [beq_eq_false_iff_ne] at he; exact he
        clear he
        go_wp2
        go_round
        case rel => exact ⟨n + 1, by omega, by go_num, fun m hm => by
          by_cases hmn : m = n
          · subst hmn; rw [HAT.out]; intro e; exact HF.out (Option.some.inj e)
          · exact HNO.out m (by omega)⟩
        case measure => simp [intOf]; omega
      · rw [he] at hq
        have HF : Hid (numL signs.data.toList x = (n : Int)) := by
          rw [beq_iff_eq] at he
          exact numL_eq (by rw [HAT.out, he]) HNO.out
        clear he
        go_wp2
        go_ret
        exact ⟨by rw [HF.out]; rfl, rfl⟩
    · have HF : Hid (numL signs.data.toList x = -1) := numL_no fun m hm => HNO.out m (by rw [byP_len] at hm; omega)
      go_wp2
      go_ret
      exact ⟨by rw [HF.out]; rfl, rfl⟩

theorem size3 {s : ByteArray} (h : s.size = 3) : ∃ a b c, s = ⟨#[a, b, c]⟩ := by
  obtain ⟨⟨l⟩⟩ := s
  match l, h with
  | [a, b, c], _ => exact ⟨a, b, c, rfl⟩
theorem size4 {s : ByteArray} (h : s.size = 4) : ∃ a b c d, s = ⟨#[a, b, c, d]⟩ := by
  obtain ⟨⟨l⟩⟩ := s
  match l, h with
  | [a, b, c, d], _ => exact ⟨a, b, c, d, rfl⟩
theorem size6 {s : ByteArray} (h : s.size = 6) : ∃ a b c d e f, s = ⟨#[a, b, c, d, e, f]⟩ := by
  obtain ⟨⟨l⟩⟩ := s
  match l, h with
  | [a, b, c, d, e, f], _ => exact ⟨a, b, c, d, e, f, rfl⟩
theorem ci_no {l : List UInt8} (h : l.length ≠ 3) : ci0 l = 0 ∧ ci1 l = 0 ∧ ci2 l = false := by
  match l, h with
  | [], _ => exact ⟨rfl, rfl, rfl⟩
  | [_], _ => exact ⟨rfl, rfl, rfl⟩
  | [_, _], _ => exact ⟨rfl, rfl, rfl⟩
  | [_, _, _], h => exact absurd rfl h
  | _ :: _ :: _ :: _ :: _, _ => exact ⟨rfl, rfl, rfl⟩

set_option maxRecDepth 100000 in
set_option maxHeartbeats 800000 in
theorem readCellIs_any (s : ByteArray) (hs : s.size ≤ 9223372036854775807) (w : World) :
    Calls Try.prog 85 #[.string s] w fun r w' => r = .returned (.tuple #[.int .i64 (ci0 s.data.toList), .int .i64 (ci1 s.data.toList), .bool (ci2 s.data.toList)]) ∧ w' = w := by
  by_cases h3 : s.size = 3
  · obtain ⟨a, b, c, rfl⟩ := size3 h3
    have HN : Hid _ := fun wx => numberOf_any ⟨#[97, 98, 99, 100, 101, 102, 103, 104, 105, 106, 107, 108, 109, 110, 111, 112]⟩ (by decide) a wx
    have HM : Hid _ := fun wx => numberOf_any ⟨#[48, 49, 50, 51, 52, 53, 54, 55, 56, 57]⟩ (by decide) c wx
    have hq := byP_beq b 61
    have hx0 : (⟨#[a, b, c]⟩ : ByteArray)[0]'(show 0 < 3 by decide) = a := rfl
    have hx1 : (⟨#[a, b, c]⟩ : ByteArray)[1]'(show 1 < 3 by decide) = b := rfl
    have hx2 : (⟨#[a, b, c]⟩ : ByteArray)[2]'(show 2 < 3 by decide) = c := rfl
    clear h3 hs
    cases he : (b == 61)
    · have hqn : (((b.toNat : Nat) : Int) != 61) = true := by rw [bne, show ((b.toNat : Int) == 61) = false from hq.trans he]; rfl
      have HV : Hid (ci0 [a, b, c] = 0 ∧ ci1 [a, b, c] = 0 ∧ ci2 [a, b, c] = false) := by
        rw [beq_eq_false_iff_ne] at he
        refine ⟨by simp [ci0, he], by simp [ci1, he], by simp [ci2, he]⟩
      clear hq he
      go_enter Try.func85, Try.ntmps85
      go_wp2
      go_ret3
      exact ⟨by show _ = Ending.returned (.tuple #[.int .i64 (ci0 [a, b, c]), .int .i64 (ci1 [a, b, c]), .bool (ci2 [a, b, c])]); rw [HV.out.1, HV.out.2.1, HV.out.2.2]; rfl, rfl⟩
    · have hqn : (((b.toNat : Nat) : Int) != 61) = false := by rw [bne, show ((b.toNat : Int) == 61) = true from hq.trans he]; rfl
      have HV : Hid (ci0 [a, b, c] = numL celS a ∧ ci1 [a, b, c] = numL valS c ∧ ci2 [a, b, c] = (decide (0 ≤ numL celS a) && decide (0 ≤ numL valS c))) := by
        rw [beq_iff_eq] at he
        subst he
        exact ⟨rfl, rfl, by simp [ci2]⟩
      clear hq he
      go_enter Try.func85, Try.ntmps85
      go_wp2_with fail
      refine Calls.mono (HN.out _) ?_
      rintro r w1 ⟨rfl, rfl⟩
      go_wp2_with fail
      refine Calls.mono (HM.out _) ?_
      rintro r w1 ⟨rfl, rfl⟩
      have HCV : Hid (numL [97, 98, 99, 100, 101, 102, 103, 104, 105, 106, 107, 108, 109, 110, 111, 112] a = numL celS a) := rfl
      have HVV : Hid (numL [48, 49, 50, 51, 52, 53, 54, 55, 56, 57] c = numL valS c) := rfl
      dsimp only
      rw [HCV.out, HVV.out]
      generalize numL celS a = na at *
      generalize numL valS c = nc at *
      by_cases g1 : 0 ≤ na
      · by_cases g2 : 0 ≤ nc
        · have HD : Hid ((decide (0 ≤ na) && decide (0 ≤ nc)) = true) := by show _ = _; simp [g1, g2]
          go_wp2
          go_ret3
          exact ⟨by show _ = Ending.returned (.tuple #[.int .i64 (ci0 [a, b, c]), .int .i64 (ci1 [a, b, c]), .bool (ci2 [a, b, c])]); rw [HV.out.1, HV.out.2.1, HV.out.2.2, HD.out]; rfl, rfl⟩
        · have HD : Hid ((decide (0 ≤ na) && decide (0 ≤ nc)) = false) := by show _ = _; simp [g2]
          go_wp2
          go_ret3
          exact ⟨by show _ = Ending.returned (.tuple #[.int .i64 (ci0 [a, b, c]), .int .i64 (ci1 [a, b, c]), .bool (ci2 [a, b, c])]); rw [HV.out.1, HV.out.2.1, HV.out.2.2, HD.out]; rfl, rfl⟩
      · have HD : Hid ((decide (0 ≤ na) && decide (0 ≤ nc)) = false) := by show _ = _; simp [g1]
        go_wp2
        go_ret3
        exact ⟨by show _ = Ending.returned (.tuple #[.int .i64 (ci0 [a, b, c]), .int .i64 (ci1 [a, b, c]), .bool (ci2 [a, b, c])]); rw [HV.out.1, HV.out.2.1, HV.out.2.2, HD.out]; rfl, rfl⟩
  · have HV : Hid _ := ci_no (l := s.data.toList) (by rw [byP_len]; exact h3)
    have hne : ((s.size : Int) != 3) = true := by rw [bne_iff_ne]; omega
    clear h3
    go_enter Try.func85, Try.ntmps85
    go_wp2
    go_ret3
    exact ⟨by rw [HV.out.1, HV.out.2.1, HV.out.2.2]; rfl, rfl⟩

theorem eqS (s t : ByteArray) : (s.toList == t.toList) = decide (s.data.toList = t.data.toList) := by rw [ByteArray.toList_eq, ByteArray.toList_eq]; exact Bool.beq_eq_decide_eq _ _
theorem insR_fen : insR fenL = ⟨3, 0, 0, 0⟩ ∧ insB fenL = true := ⟨rfl, rfl⟩
theorem insR_four {a b c d : UInt8} : insR [a, b, c, d] = (if a = 114 ∧ c = 61 then ⟨2, numL nbrS b, numL celS d, 0⟩ else ⟨1, 0, 0, 0⟩) ∧ insB [a, b, c, d] = (if a = 114 ∧ c = 61 then (decide (0 ≤ numL nbrS b) && decide (0 ≤ numL celS d)) else false) := by
  have h : ¬ [a, b, c, d] = fenL := by simp [fenL]
  unfold insR insB
  rw [if_neg h, if_neg h]
  exact ⟨rfl, rfl⟩
theorem insR_else {l : List UInt8} (h : ¬ l = fenL) (h4 : l.length ≠ 4) : insR l = ⟨1, 0, ci0 l, ci1 l⟩ ∧ insB l = ci2 l := by
  unfold insR insB
  rw [if_neg h, if_neg h]
  match l, h4 with
  | [], _ => exact ⟨rfl, rfl⟩
  | [_], _ => exact ⟨rfl, rfl⟩
  | [_, _], _ => exact ⟨rfl, rfl⟩
  | [_, _, _], _ => exact ⟨rfl, rfl⟩
  | [_, _, _, _], h => exact absurd rfl h
  | _ :: _ :: _ :: _ :: _ :: _, _ => exact ⟨rfl, rfl⟩

set_option maxRecDepth 100000 in
set_option maxHeartbeats 800000 in
theorem readIns_any (s : ByteArray) (hs : s.size ≤ 9223372036854775807) (w : World) :
    Calls Try.prog 83 #[.string s] w fun r w' => r = .returned (.tuple #[.agg #[.int .i64 (insR s.data.toList).a, .int .i64 (insR s.data.toList).b, .int .i64 (insR s.data.toList).c, .int .i64 (insR s.data.toList).d], .bool (insB s.data.toList)]) ∧ Below w.heap.size w w' := by
  by_cases hf : s.data.toList = fenL
  · obtain rfl : s = ⟨#[102, 101, 110, 99, 101]⟩ := by
      obtain ⟨d⟩ := s
      congr 1
      exact Array.toList_inj.1 hf
    clear hf hs
    go_enter Try.func83, Try.ntmps83
    go_wp2
    refine bodyPost_ret (v := .tuple #[.agg #[.int .i64 3, .int .i64 0, .int .i64 0, .int .i64 0], .bool true]) (by simp [results, Try.results83, go_sem]) rfl ⟨rfl, ?_⟩
    repeat (first | exact Below.refl _ _ | refine Below.setCell ?_ (Nat.le_refl _) _ | refine Below.alloc ?_ (Nat.le_refl _) _)
  · have hqf : (s.toList == [102, 101, 110, 99, 101]) = false := by rw [ByteArray.toList_eq, beq_eq_false_iff_ne]; exact hf
    have HRC : Hid _ := readCellIs_any s hs
    by_cases h4 : s.size = 4
    · obtain ⟨a, b, c, d, rfl⟩ := size4 h4
      have hx0 : (⟨#[a, b, c, d]⟩ : ByteArray)[0]'(show 0 < 4 by decide) = a := rfl
      have hx1 : (⟨#[a, b, c, d]⟩ : ByteArray)[1]'(show 1 < 4 by decide) = b := rfl
      have hx2 : (⟨#[a, b, c, d]⟩ : ByteArray)[2]'(show 2 < 4 by decide) = c := rfl
      have hx3 : (⟨#[a, b, c, d]⟩ : ByteArray)[3]'(show 3 < 4 by decide) = d := rfl
      have HN : Hid _ := fun wx => numberOf_any ⟨#[48, 49, 50, 51, 52, 53, 54, 55, 56, 57, 97, 98, 99, 100, 101, 102]⟩ (by decide) b wx
      have HM : Hid _ := fun wx => numberOf_any ⟨#[97, 98, 99, 100, 101, 102, 103, 104, 105, 106, 107, 108, 109, 110, 111, 112]⟩ (by decide) d wx
      have hq := byP_beq a 114
      have hq2 := byP_beq c 61
      have HI : Hid _ := @insR_four a b c d
      clear h4 hs hf
      have HRC2 : Hid (∀ wx, Calls Try.prog 85 #[.string ⟨#[a, b, c, d]⟩] wx fun r w' => r = .returned (.tuple #[.int .i64 0, .int .i64 0, .bool false]) ∧ w' = wx) := fun wx => HRC.out wx
      clear HRC
      cases he : (a == 114)
      · rw [he] at hq
        have hq' : (((a.toNat : Nat) : Int) == 114) = false := hq
        have HV : Hid (insR [a, b, c, d] = ⟨1, 0, 0, 0⟩ ∧ insB [a, b, c, d] = false) := by
          rw [beq_eq_false_iff_ne] at he
          have hn : ¬ (a = 114 ∧ c = 61) := fun h => he h.1
          exact ⟨HI.out.1.trans (if_neg hn), HI.out.2.trans (if_neg hn)⟩
        clear hq hq2 he HI
        go_enter Try.func83, Try.ntmps83
        go_wp2_with fail
        refine Calls.mono (HRC2.out _) ?_
        rintro r w1 ⟨rfl, rfl⟩
        go_wp2
        refine bodyPost_ret (v := .tuple #[.agg #[.int .i64 1, .int .i64 0, .int .i64 0, .int .i64 0], .bool false]) (by simp [results, Try.results83, go_sem]) rfl ⟨by show _ = Ending.returned (.tuple #[.agg #[.int .i64 (insR [a, b, c, d]).a, .int .i64 (insR [a, b, c, d]).b, .int .i64 (insR [a, b, c, d]).c, .int .i64 (insR [a, b, c, d]).d], .bool (insB [a, b, c, d])]); rw [HV.out.1, HV.out.2], ?_⟩
        repeat (first | exact Below.refl _ _ | refine Below.setCell ?_ (Nat.le_refl _) _ | refine Below.alloc ?_ (Nat.le_refl _) _)
      · rw [he] at hq
        have hq' : (((a.toNat : Nat) : Int) == 114) = true := hq
        cases he2 : (c == 61)
        · rw [he2] at hq2
          have hq2' : (((c.toNat : Nat) : Int) == 61) = false := hq2
          have HV : Hid (insR [a, b, c, d] = ⟨1, 0, 0, 0⟩ ∧ insB [a, b, c, d] = false) := by
            rw [beq_eq_false_iff_ne] at he2
            have hn : ¬ (a = 114 ∧ c = 61) := fun h => he2 h.2
            exact ⟨HI.out.1.trans (if_neg hn), HI.out.2.trans (if_neg hn)⟩
          clear hq hq2 he he2 HI
          go_enter Try.func83, Try.ntmps83
          go_wp2_with fail
          refine Calls.mono (HRC2.out _) ?_
          rintro r w1 ⟨rfl, rfl⟩
          go_wp2
          refine bodyPost_ret (v := .tuple #[.agg #[.int .i64 1, .int .i64 0, .int .i64 0, .int .i64 0], .bool false]) (by simp [results, Try.results83, go_sem]) rfl ⟨by show _ = Ending.returned (.tuple #[.agg #[.int .i64 (insR [a, b, c, d]).a, .int .i64 (insR [a, b, c, d]).b, .int .i64 (insR [a, b, c, d]).c, .int .i64 (insR [a, b, c, d]).d], .bool (insB [a, b, c, d])]); rw [HV.out.1, HV.out.2], ?_⟩
          repeat (first | exact Below.refl _ _ | refine Below.setCell ?_ (Nat.le_refl _) _ | refine Below.alloc ?_ (Nat.le_refl _) _)
        · rw [he2] at hq2
          have hq2' : (((c.toNat : Nat) : Int) == 61) = true := hq2
          have HV : Hid (insR [a, b, c, d] = ⟨2, numL nbrS b, numL celS d, 0⟩ ∧ insB [a, b, c, d] = (decide (0 ≤ numL nbrS b) && decide (0 ≤ numL celS d))) := by
            rw [beq_iff_eq] at he he2
            exact ⟨HI.out.1.trans (if_pos ⟨he, he2⟩), HI.out.2.trans (if_pos ⟨he, he2⟩)⟩
          have HNB : Hid (numL [48, 49, 50, 51, 52, 53, 54, 55, 56, 57, 97, 98, 99, 100, 101, 102] b = numL nbrS b) := rfl
          have HCD : Hid (numL [97, 98, 99, 100, 101, 102, 103, 104, 105, 106, 107, 108, 109, 110, 111, 112] d = numL celS d) := rfl
          clear hq hq2 he he2 HI
          go_enter Try.func83, Try.ntmps83
          go_wp2_with fail
          refine Calls.mono (HN.out _) ?_
          rintro r w1 ⟨rfl, rfl⟩
          go_wp2_with fail
          refine Calls.mono (HM.out _) ?_
          rintro r w1 ⟨rfl, rfl⟩
          dsimp only
          rw [HNB.out, HCD.out]
          generalize numL nbrS b = nb at *
          generalize numL celS d = nd at *
          by_cases g1 : 0 ≤ nb
          · by_cases g2 : 0 ≤ nd
            · have HD : Hid ((decide (0 ≤ nb) && decide (0 ≤ nd)) = true) := by show _ = _; simp [g1, g2]
              go_wp2
              refine bodyPost_ret (v := .tuple #[.agg #[.int .i64 2, .int .i64 nb, .int .i64 nd, .int .i64 0], .bool true]) (by simp [results, Try.results83, go_sem]) rfl ⟨by show _ = Ending.returned (.tuple #[.agg #[.int .i64 (insR [a, b, c, d]).a, .int .i64 (insR [a, b, c, d]).b, .int .i64 (insR [a, b, c, d]).c, .int .i64 (insR [a, b, c, d]).d], .bool (insB [a, b, c, d])]); rw [HV.out.1, HV.out.2, HD.out], ?_⟩
              repeat (first | exact Below.refl _ _ | refine Below.setCell ?_ (Nat.le_refl _) _ | refine Below.alloc ?_ (Nat.le_refl _) _)
            · have HD : Hid ((decide (0 ≤ nb) && decide (0 ≤ nd)) = false) := by show _ = _; simp [g2]
              go_wp2
              refine bodyPost_ret (v := .tuple #[.agg #[.int .i64 2, .int .i64 nb, .int .i64 nd, .int .i64 0], .bool false]) (by simp [results, Try.results83, go_sem]) rfl ⟨by show _ = Ending.returned (.tuple #[.agg #[.int .i64 (insR [a, b, c, d]).a, .int .i64 (insR [a, b, c, d]).b, .int .i64 (insR [a, b, c, d]).c, .int .i64 (insR [a, b, c, d]).d], .bool (insB [a, b, c, d])]); rw [HV.out.1, HV.out.2, HD.out], ?_⟩
              repeat (first | exact Below.refl _ _ | refine Below.setCell ?_ (Nat.le_refl _) _ | refine Below.alloc ?_ (Nat.le_refl _) _)
          · have HD : Hid ((decide (0 ≤ nb) && decide (0 ≤ nd)) = false) := by show _ = _; simp [g1]
            go_wp2
            refine bodyPost_ret (v := .tuple #[.agg #[.int .i64 2, .int .i64 nb, .int .i64 nd, .int .i64 0], .bool false]) (by simp [results, Try.results83, go_sem]) rfl ⟨by show _ = Ending.returned (.tuple #[.agg #[.int .i64 (insR [a, b, c, d]).a, .int .i64 (insR [a, b, c, d]).b, .int .i64 (insR [a, b, c, d]).c, .int .i64 (insR [a, b, c, d]).d], .bool (insB [a, b, c, d])]); rw [HV.out.1, HV.out.2, HD.out], ?_⟩
            repeat (first | exact Below.refl _ _ | refine Below.setCell ?_ (Nat.le_refl _) _ | refine Below.alloc ?_ (Nat.le_refl _) _)
    · have HV : Hid _ := insR_else hf (by rw [byP_len]; exact h4)
      have h4i : ((s.size : Int) == 4) = false := by rw [beq_eq_false_iff_ne]; omega
      clear h4 hf
      go_enter Try.func83, Try.ntmps83
      go_wp2_with fail
      refine Calls.mono (HRC.out _) ?_
      rintro r w1 ⟨rfl, rfl⟩
      go_wp2
      refine bodyPost_ret (v := .tuple #[.agg #[.int .i64 1, .int .i64 0, .int .i64 (ci0 s.data.toList), .int .i64 (ci1 s.data.toList)], .bool (ci2 s.data.toList)]) (by simp [results, Try.results83, go_sem]) rfl ⟨by rw [HV.out.1, HV.out.2], ?_⟩
      repeat (first | exact Below.refl _ _ | refine Below.setCell ?_ (Nat.le_refl _) _ | refine Below.alloc ?_ (Nat.le_refl _) _)

theorem clmR_six {a b c d e f : UInt8} : clmR [a, b, c, d, e, f] = (if b = 58 ∧ c = 114 ∧ e = 61 then ⟨numL nbrS a, numL nbrS d, 0, numL valS f⟩ else ⟨-1, 0, 0, 0⟩) ∧ clmB [a, b, c, d, e, f] = (if b = 58 ∧ c = 114 ∧ e = 61 then (decide (0 ≤ numL nbrS a) && decide (0 ≤ numL nbrS d) && decide (0 ≤ numL valS f)) else false) := ⟨rfl, rfl⟩
theorem clmR_else {l : List UInt8} (h6 : l.length ≠ 6) : clmR l = ⟨-1, 0, ci0 l, ci1 l⟩ ∧ clmB l = ci2 l := by
  match l, h6 with
  | [], _ => exact ⟨rfl, rfl⟩
  | [_], _ => exact ⟨rfl, rfl⟩
  | [_, _], _ => exact ⟨rfl, rfl⟩
  | [_, _, _], _ => exact ⟨rfl, rfl⟩
  | [_, _, _, _], _ => exact ⟨rfl, rfl⟩
  | [_, _, _, _, _], _ => exact ⟨rfl, rfl⟩
  | [_, _, _, _, _, _], h => exact absurd rfl h
  | _ :: _ :: _ :: _ :: _ :: _ :: _ :: _, _ => exact ⟨rfl, rfl⟩

set_option maxRecDepth 100000 in
set_option maxHeartbeats 1600000 in
theorem readClaim_any (s : ByteArray) (hs : s.size ≤ 9223372036854775807) (w : World) :
    Calls Try.prog 68 #[.string s] w fun r w' => r = .returned (.tuple #[.agg #[.int .i64 (clmR s.data.toList).a, .int .i64 (clmR s.data.toList).b, .int .i64 (clmR s.data.toList).c, .int .i64 (clmR s.data.toList).d], .bool (clmB s.data.toList)]) ∧ Below w.heap.size w w' := by
  have HRC : Hid _ := readCellIs_any s hs
  by_cases h6 : s.size = 6
  · obtain ⟨a, b, c, d, e, f, rfl⟩ := size6 h6
    have hx0 : (⟨#[a, b, c, d, e, f]⟩ : ByteArray)[0]'(show 0 < 6 by decide) = a := rfl
    have hx3 : (⟨#[a, b, c, d, e, f]⟩ : ByteArray)[3]'(show 3 < 6 by decide) = d := rfl
    have hx4 : (⟨#[a, b, c, d, e, f]⟩ : ByteArray)[4]'(show 4 < 6 by decide) = e := rfl
    have hx5 : (⟨#[a, b, c, d, e, f]⟩ : ByteArray)[5]'(show 5 < 6 by decide) = f := rfl
    have hex : (⟨#[a, b, c, d, e, f]⟩ : ByteArray).extract 1 3 = ⟨#[b, c]⟩ := rfl
    have HA : Hid _ := fun wx => numberOf_any ⟨#[48, 49, 50, 51, 52, 53, 54, 55, 56, 57, 97, 98, 99, 100, 101, 102]⟩ (by decide) a wx
    have HDD : Hid _ := fun wx => numberOf_any ⟨#[48, 49, 50, 51, 52, 53, 54, 55, 56, 57, 97, 98, 99, 100, 101, 102]⟩ (by decide) d wx
    have HF : Hid _ := fun wx => numberOf_any ⟨#[48, 49, 50, 51, 52, 53, 54, 55, 56, 57]⟩ (by decide) f wx
    have HI : Hid _ := @clmR_six a b c d e f
    have HRC2 : Hid (∀ wx, Calls Try.prog 85 #[.string ⟨#[a, b, c, d, e, f]⟩] wx fun r w' => r = .returned (.tuple #[.int .i64 0, .int .i64 0, .bool false]) ∧ w' = wx) := fun wx => HRC.out wx
    have hq := byP_beq e 61
    clear h6 hs HRC
    by_cases hbc : b = 58 ∧ c = 114
    · obtain ⟨rfl, rfl⟩ := hbc
      cases he : (e == 61)
      · rw [he] at hq
        have hq' : (((e.toNat : Nat) : Int) == 61) = false := hq
        rw [beq_eq_false_iff_ne] at he
        have HV : Hid (clmR [a, 58, 114, d, e, f] = ⟨-1, 0, 0, 0⟩ ∧ clmB [a, 58, 114, d, e, f] = false) := by
          have hn : ¬ ((58 : UInt8) = 58 ∧ (114 : UInt8) = 114 ∧ e = 61) := fun h => he h.2.2
          exact ⟨HI.out.1.trans (if_neg hn), HI.out.2.trans (if_neg hn)⟩
        clear hq he HI
        go_enter Try.func68, Try.ntmps68
        go_wp2_with fail
        refine Calls.mono (HRC2.out _) ?_
        rintro r w1 ⟨rfl, rfl⟩
        go_wp2
        refine bodyPost_ret (v := .tuple #[.agg #[.int .i64 (-1), .int .i64 0, .int .i64 0, .int .i64 0], .bool false]) (by simp [results, Try.results68, go_sem]) rfl ⟨by show _ = Ending.returned (.tuple #[.agg #[.int .i64 (clmR [a, 58, 114, d, e, f]).a, .int .i64 (clmR [a, 58, 114, d, e, f]).b, .int .i64 (clmR [a, 58, 114, d, e, f]).c, .int .i64 (clmR [a, 58, 114, d, e, f]).d], .bool (clmB [a, 58, 114, d, e, f])]); rw [HV.out.1, HV.out.2], ?_⟩
        repeat (first | exact Below.refl _ _ | refine Below.setCell ?_ (Nat.le_refl _) _ | refine Below.alloc ?_ (Nat.le_refl _) _)
      · rw [he] at hq
        have hq' : (((e.toNat : Nat) : Int) == 61) = true := hq
        rw [beq_iff_eq] at he
        have HV : Hid (clmR [a, 58, 114, d, e, f] = ⟨numL nbrS a, numL nbrS d, 0, numL valS f⟩ ∧ clmB [a, 58, 114, d, e, f] = (decide (0 ≤ numL nbrS a) && decide (0 ≤ numL nbrS d) && decide (0 ≤ numL valS f))) :=
          ⟨HI.out.1.trans (if_pos ⟨rfl, rfl, he⟩), HI.out.2.trans (if_pos ⟨rfl, rfl, he⟩)⟩
        have HNA : Hid (numL [48, 49, 50, 51, 52, 53, 54, 55, 56, 57, 97, 98, 99, 100, 101, 102] a = numL nbrS a) := rfl
        have HND : Hid (numL [48, 49, 50, 51, 52, 53, 54, 55, 56, 57, 97, 98, 99, 100, 101, 102] d = numL nbrS d) := rfl
        have HNF : Hid (numL [48, 49, 50, 51, 52, 53, 54, 55, 56, 57] f = numL valS f) := rfl
        clear hq he HI
        go_enter Try.func68, Try.ntmps68
        go_wp2_with fail
        refine Calls.mono (HA.out _) ?_
        rintro r w1 ⟨rfl, rfl⟩
        go_wp2_with fail
        refine Calls.mono (HDD.out _) ?_
        rintro r w1 ⟨rfl, rfl⟩
        go_wp2_with fail
        refine Calls.mono (HF.out _) ?_
        rintro r w1 ⟨rfl, rfl⟩
        dsimp only
        rw [HNA.out, HND.out, HNF.out]
        generalize numL nbrS a = na at *
        generalize numL nbrS d = nd at *
        generalize numL valS f = nf at *
        by_cases g1 : 0 ≤ na
        · by_cases g2 : 0 ≤ nd
          · by_cases g3 : 0 ≤ nf
            · have HD : Hid ((decide (0 ≤ na) && decide (0 ≤ nd) && decide (0 ≤ nf)) = true) := by show _ = _; simp [g1, g2, g3]
              go_wp2
              refine bodyPost_ret (v := .tuple #[.agg #[.int .i64 na, .int .i64 nd, .int .i64 0, .int .i64 nf], .bool true]) (by simp [results, Try.results68, go_sem]) rfl ⟨by show _ = Ending.returned (.tuple #[.agg #[.int .i64 (clmR [a, 58, 114, d, e, f]).a, .int .i64 (clmR [a, 58, 114, d, e, f]).b, .int .i64 (clmR [a, 58, 114, d, e, f]).c, .int .i64 (clmR [a, 58, 114, d, e, f]).d], .bool (clmB [a, 58, 114, d, e, f])]); rw [HV.out.1, HV.out.2, HD.out], ?_⟩
              repeat (first | exact Below.refl _ _ | refine Below.setCell ?_ (Nat.le_refl _) _ | refine Below.alloc ?_ (Nat.le_refl _) _)
            · have HD : Hid ((decide (0 ≤ na) && decide (0 ≤ nd) && decide (0 ≤ nf)) = false) := by show _ = _; simp [g3]
              go_wp2
              refine bodyPost_ret (v := .tuple #[.agg #[.int .i64 na, .int .i64 nd, .int .i64 0, .int .i64 nf], .bool false]) (by simp [results, Try.results68, go_sem]) rfl ⟨by show _ = Ending.returned (.tuple #[.agg #[.int .i64 (clmR [a, 58, 114, d, e, f]).a, .int .i64 (clmR [a, 58, 114, d, e, f]).b, .int .i64 (clmR [a, 58, 114, d, e, f]).c, .int .i64 (clmR [a, 58, 114, d, e, f]).d], .bool (clmB [a, 58, 114, d, e, f])]); rw [HV.out.1, HV.out.2, HD.out], ?_⟩
              repeat (first | exact Below.refl _ _ | refine Below.setCell ?_ (Nat.le_refl _) _ | refine Below.alloc ?_ (Nat.le_refl _) _)
          · have HD : Hid ((decide (0 ≤ na) && decide (0 ≤ nd) && decide (0 ≤ nf)) = false) := by show _ = _; simp [g2]
            go_wp2
            refine bodyPost_ret (v := .tuple #[.agg #[.int .i64 na, .int .i64 nd, .int .i64 0, .int .i64 nf], .bool false]) (by simp [results, Try.results68, go_sem]) rfl ⟨by show _ = Ending.returned (.tuple #[.agg #[.int .i64 (clmR [a, 58, 114, d, e, f]).a, .int .i64 (clmR [a, 58, 114, d, e, f]).b, .int .i64 (clmR [a, 58, 114, d, e, f]).c, .int .i64 (clmR [a, 58, 114, d, e, f]).d], .bool (clmB [a, 58, 114, d, e, f])]); rw [HV.out.1, HV.out.2, HD.out], ?_⟩
            repeat (first | exact Below.refl _ _ | refine Below.setCell ?_ (Nat.le_refl _) _ | refine Below.alloc ?_ (Nat.le_refl _) _)
        · have HD : Hid ((decide (0 ≤ na) && decide (0 ≤ nd) && decide (0 ≤ nf)) = false) := by show _ = _; simp [g1]
          go_wp2
          refine bodyPost_ret (v := .tuple #[.agg #[.int .i64 na, .int .i64 nd, .int .i64 0, .int .i64 nf], .bool false]) (by simp [results, Try.results68, go_sem]) rfl ⟨by show _ = Ending.returned (.tuple #[.agg #[.int .i64 (clmR [a, 58, 114, d, e, f]).a, .int .i64 (clmR [a, 58, 114, d, e, f]).b, .int .i64 (clmR [a, 58, 114, d, e, f]).c, .int .i64 (clmR [a, 58, 114, d, e, f]).d], .bool (clmB [a, 58, 114, d, e, f])]); rw [HV.out.1, HV.out.2, HD.out], ?_⟩
          repeat (first | exact Below.refl _ _ | refine Below.setCell ?_ (Nat.le_refl _) _ | refine Below.alloc ?_ (Nat.le_refl _) _)
    · have hbq : ((⟨#[b, c]⟩ : ByteArray).toList == [58, 114]) = false := by rw [ByteArray.toList_eq, beq_eq_false_iff_ne]; intro h; apply hbc; simpa using h
      have hbr : ([b, c] == [58, 114]) = false := by rw [beq_eq_false_iff_ne]; intro h; apply hbc; simpa using h
      have hbs : b = 58 → ¬ c = 114 := fun h1 h2 => hbc ⟨h1, h2⟩
      have HV : Hid (clmR [a, b, c, d, e, f] = ⟨-1, 0, 0, 0⟩ ∧ clmB [a, b, c, d, e, f] = false) := by
        have hn : ¬ (b = 58 ∧ c = 114 ∧ e = 61) := fun h => hbc ⟨h.1, h.2.1⟩
        exact ⟨HI.out.1.trans (if_neg hn), HI.out.2.trans (if_neg hn)⟩
      clear hq hbc HI
      go_enter Try.func68, Try.ntmps68
      go_wp2_with fail
      refine Calls.mono (HRC2.out _) ?_
      rintro r w1 ⟨rfl, rfl⟩
      go_wp2
      refine bodyPost_ret (v := .tuple #[.agg #[.int .i64 (-1), .int .i64 0, .int .i64 0, .int .i64 0], .bool false]) (by simp [results, Try.results68, go_sem]) rfl ⟨by show _ = Ending.returned (.tuple #[.agg #[.int .i64 (clmR [a, b, c, d, e, f]).a, .int .i64 (clmR [a, b, c, d, e, f]).b, .int .i64 (clmR [a, b, c, d, e, f]).c, .int .i64 (clmR [a, b, c, d, e, f]).d], .bool (clmB [a, b, c, d, e, f])]); rw [HV.out.1, HV.out.2], ?_⟩
      repeat (first | exact Below.refl _ _ | refine Below.setCell ?_ (Nat.le_refl _) _ | refine Below.alloc ?_ (Nat.le_refl _) _)
  · have HV : Hid _ := clmR_else (l := s.data.toList) (by rw [byP_len]; exact h6)
    have h6i : ((s.size : Int) == 6) = false := by rw [beq_eq_false_iff_ne]; omega
    clear h6
    go_enter Try.func68, Try.ntmps68
    go_wp2_with fail
    refine Calls.mono (HRC.out _) ?_
    rintro r w1 ⟨rfl, rfl⟩
    go_wp2
    refine bodyPost_ret (v := .tuple #[.agg #[.int .i64 (-1), .int .i64 0, .int .i64 (ci0 s.data.toList), .int .i64 (ci1 s.data.toList)], .bool (ci2 s.data.toList)]) (by simp [results, Try.results68, go_sem]) rfl ⟨by rw [HV.out.1, HV.out.2], ?_⟩
    repeat (first | exact Below.refl _ _ | refine Below.setCell ?_ (Nat.le_refl _) _ | refine Below.alloc ?_ (Nat.le_refl _) _)

end Go.Proofs.Ytokfiflflcfidaa
