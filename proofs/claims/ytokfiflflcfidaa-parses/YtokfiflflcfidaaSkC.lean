import Derived.Test.YtokfiflflcfidaaRows
import Derived.Test.YtokfiflflcfidaaSkB
import Derived.WalkKit
import Derived.WalkSpells
import Derived.WalkLawsBesides
namespace Go.Proofs.Ytokfiflflcfidaa
open Go.RowKit

theorem wdsOk_drop {l : List UInt8} {n : Nat} (hn : n < l.length) : wdsOk (l.drop n) = (l[n]?.getD 0 == 32) := by
  rw [List.drop_eq_getElem_cons hn, List.getElem?_eq_getElem hn]
  rfl
theorem wdsOk_end {l : List UInt8} {n : Nat} (hn : l.length ≤ n) : wdsOk (l.drop n) = true ∧ wds (l.drop n) = [] := by
  rw [List.drop_eq_nil_of_le hn]
  exact ⟨rfl, rfl⟩
theorem wds_next {l : List UInt8} {n j : Nat} (hn : n < l.length) (h32 : l[n]?.getD 0 = 32) (hj : n + 1 ≤ j) (hno : ∀ m, n + 1 ≤ m → m < j → l[m]?.getD 0 ≠ 32) (hok : wdsOk (l.drop j) = true) : wds (l.drop n) = (l.take j).drop (n + 1) :: wds (l.drop j) := by
  have h1 : l.drop n = 32 :: l.drop (n + 1) := by
    rw [List.drop_eq_getElem_cons hn]
    rw [List.getElem?_eq_getElem hn] at h32
    rw [show l[n] = 32 from h32]
  have h2 : l.drop (n + 1) = (l.take j).drop (n + 1) ++ l.drop j := by
    by_cases hjl : j ≤ l.length
    · conv => lhs; rw [← List.take_append_drop j l, List.drop_append_of_le_length (by rw [List.length_take]; omega)]
    · rw [List.take_of_length_le (by omega), List.drop_eq_nil_of_le (show l.length ≤ j by omega), List.append_nil]
  unfold wds
  rw [h1, spR_sep, List.tail_cons, h2, spR_app (none_from hno)]
  rw [wdsOk_head, beq_iff_eq] at hok
  rw [hok, List.append_nil]

set_option maxRecDepth 100000 in
set_option maxHeartbeats 800000 in
theorem words_any (s : ByteArray) (hs : s.size ≤ 900000) (w : World) :
    Calls Try.prog 53 #[.string s] w fun r w' => ∃ v, r = .returned (.tuple #[v, .bool (wdsOk s.data.toList)]) ∧ (wdsOk s.data.toList = true → OwnS w' w.heap.size 9 v (wds s.data.toList)) ∧ (wdsOk s.data.toList = false → v = .slice none 0 0) ∧ Below w.heap.size w w' := by
  have HL : Hid (s.data.toList.length = s.size) := byP_len s
  obtain ⟨l, hl⟩ : ∃ l, s.data.toList = l := ⟨_, rfl⟩
  have HLL : Hid _ := hl
  rw [hl] at HL ⊢
  obtain ⟨ok, hok⟩ : ∃ ok, wdsOk l = ok := ⟨_, rfl⟩
  have HOK : Hid _ := hok
  rw [hok]
  clear hl hok
  go_enter Try.func53, Try.ntmps53
  go_wp2
  go_loopw [4, 5] (fun v i wr => ∃ (n : Nat) (rs : List (List UInt8)), n ≤ s.size ∧ i = .int .i64 n ∧ rs.length ≤ n ∧ wds l = rs ++ wds (l.drop n) ∧ wdsOk (l.drop n) = ok ∧ OwnS wr w.heap.size 9 v rs ∧ Below w.heap.size w wr) (fun _ i _ => s.size - (intOf i).toNat)
  case atStart => exact ⟨0, [], Nat.zero_le _, rfl, Nat.le_refl _, rfl, HOK.out, OwnS.nil _ _ _, Below.refl _ _⟩
  case round =>
    obtain ⟨n, rs, hn, rfl, hrl, hw, hk, hown, hb⟩ := hrel
    have HW : Hid _ := hw
    have HK : Hid _ := hk
    have HO : Hid (OwnS wr w.heap.size 9 _ rs) := hown
    have HB : Hid _ := hb
    have HRL : Hid _ := hrl
    clear hw hk hown hb hrl
    by_cases hlt : n < s.size
    · have HAT : Hid (l[n]?.getD 0 = s[n]'hlt) := by show _ = _; rw [← HLL.out, byP_at s n hlt]; rfl
      have HNL : Hid (n < l.length) := by show _ < _; rw [HL.out]; exact hlt
      have hq := byP_beq (s[n]'hlt) 32
      have hni : (n : Int) < (s.size : Int) := by omega
      have HW1 : Hid _ := wdsOk_drop HNL.out
      cases he : ((s[n]'hlt) == 32)
      · have hq' : ((((s[n]'hlt).toNat : Nat) : Int) != 32) = true := by rw [bne, show ((((s[n]'hlt).toNat : Nat) : Int) == 32) = false from hq.trans he]; rfl
        have HF : Hid (ok = false) := by show _ = _; rw [← HK.out, HW1.out, HAT.out, he]
        clear he hq
        go_wp2
        go_ret2
        exact ⟨_, by rw [HF.out]; rfl, (fun h => by rw [HF.out] at h; cases h), fun _ => rfl, HB.out⟩
      · have hq' : ((((s[n]'hlt).toNat : Nat) : Int) != 32) = false := by rw [bne, show ((((s[n]'hlt).toNat : Nat) : Int) == 32) = true from hq.trans he]; rfl
        have HF : Hid (ok = true) := by show _ = _; rw [← HK.out, HW1.out, HAT.out, he]
        have H32 : Hid (l[n]?.getD 0 = 32) := by show _ = _; rw [HAT.out]; exact beq_iff_eq.1 he
        clear he hq
        go_wp2
        go_loopw [6] (fun i wx => ∃ j : Nat, n + 1 ≤ j ∧ j ≤ s.size ∧ i = .int .i64 j ∧ (∀ m, n + 1 ≤ m → m < j → l[m]?.getD 0 ≠ 32) ∧ wr = wx) (fun i _ => s.size - (intOf i).toNat)
        case atStart => exact ⟨n + 1, Nat.le_refl _, by omega, by go_num, fun m h1 h2 => absurd h2 (by omega), rfl⟩
        case round =>
          obtain ⟨j, hnj, hj, rfl, hno, rfl⟩ := hrel
          have HNO : Hid _ := hno
          clear hno
          have hex : s.extract (n + 1) j = ⟨((l.take j).drop (n + 1)).toArray⟩ := ex_eq (by rw [HLL.out])
          have HPUSH : Hid (wdsOk (l.drop j) = true → wds l = rs ++ [(l.take j).drop (n + 1)] ++ wds (l.drop j)) := fun h => by rw [HW.out, wds_next HNL.out H32.out hnj HNO.out h]; simp
          have HPL : Hid (rs.length ≤ 1000000000) := by show _ ≤ _; have := HRL.out; omega
          generalize (l.take j).drop (n + 1) = x at *
          by_cases hjl : j < s.size
          · have HATJ : Hid (l[j]?.getD 0 = s[j]'hjl) := by show _ = _; rw [← HLL.out, byP_at s j hjl]; rfl
            have hqj := byP_beq (s[j]'hjl) 32
            have hji : (j : Int) < (s.size : Int) := by omega
            have HWJ : Hid _ := wdsOk_drop (show j < l.length by rw [HL.out]; exact hjl)
            cases he : ((s[j]'hjl) == 32)
            · have hqj' : ((((s[j]'hjl).toNat : Nat) : Int) != 32) = true := by rw [bne, show ((((s[j]'hjl).toNat : Nat) : Int) == 32) = false from hqj.trans he]; rfl
              have HFJ : Hid (l[j]?.getD 0 ≠ 32) := by show _ ≠ _; rw [HATJ.out]; exact beq_eq_false_iff_ne.1 he
              clear he hqj hex
              go_wp2
              go_roundw
              case rel => exact ⟨j + 1, by omega, by omega, by go_num, fun m h1 h2 => by
                by_cases hmj : m = j
                · subst hmj; exact HFJ.out
                · exact HNO.out m h1 (by omega), trivial⟩
              case measure => simp [intOf]; omega
            · have hqj' : ((((s[j]'hjl).toNat : Nat) : Int) != 32) = false := by rw [bne, show ((((s[j]'hjl).toNat : Nat) : Int) == 32) = true from hqj.trans he]; rfl
              have HE : Hid (wdsOk (l.drop j) = true) := by show _ = _; rw [HWJ.out, HATJ.out, he]
              clear he hqj
              go_wp2_with (at_builtin; refine wpList_pushS rfl _ _ 91 rfl w.heap.size 9 Try.underlying91 Try.infoStrP _ _ x (by rfl) (by rfl) HO.out HPL.out HB.out.size ?_; intro v2 w2 h2 hb2; have HO2 : Hid (OwnS w2 w.heap.size 9 v2 (rs ++ [x])) := h2; have HB2 : Hid (Below w.heap.size w w2) := hb2.below HB.out HB.out.size HO.out; clear h2 hb2 HO)
              go_roundw
              case rel => exact ⟨j, rs ++ [x], by omega, by go_num, by rw [List.length_append]; have := HRL.out; simp; omega, HPUSH.out HE.out, by rw [HE.out, HF.out], HO2.out, HB2.out⟩
              case measure => simp [intOf]; omega
          · have HE : Hid _ := (wdsOk_end (l := l) (n := j) (by rw [HL.out]; omega))
            have hji : ¬ ((j : Int) < (s.size : Int)) := by omega
            go_wp2_with (at_builtin; refine wpList_pushS rfl _ _ 91 rfl w.heap.size 9 Try.underlying91 Try.infoStrP _ _ x (by rfl) (by rfl) HO.out HPL.out HB.out.size ?_; intro v2 w2 h2 hb2; have HO2 : Hid (OwnS w2 w.heap.size 9 v2 (rs ++ [x])) := h2; have HB2 : Hid (Below w.heap.size w w2) := hb2.below HB.out HB.out.size HO.out; clear h2 hb2 HO)
            go_roundw
            case rel => exact ⟨j, rs ++ [x], by omega, by go_num, by rw [List.length_append]; have := HRL.out; simp; omega, HPUSH.out HE.out.1, by rw [HE.out.1, HF.out], HO2.out, HB2.out⟩
            case measure => simp [intOf]; omega
    · have HE : Hid _ := (wdsOk_end (l := l) (n := n) (by rw [HL.out]; omega))
      have HF : Hid (ok = true) := by show _ = _; rw [← HK.out, HE.out.1]
      have HR : Hid (wds l = rs) := by show _ = _; rw [HW.out, HE.out.2, List.append_nil]
      go_wp2
      go_ret2
      exact ⟨_, by rw [HF.out]; rfl, fun _ => by rw [HR.out]; exact HO.out, (fun h => by rw [HF.out] at h; cases h), HB.out⟩

end Go.Proofs.Ytokfiflflcfidaa
