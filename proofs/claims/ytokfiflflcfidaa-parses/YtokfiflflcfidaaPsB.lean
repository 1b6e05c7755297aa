import Derived.Test.YtokfiflflcfidaaRows
import Derived.Test.YtokfiflflcfidaaPsA
import Derived.Test.YtokfiflflcfidaaMem2
import Derived.Lib.SmallJoins
import Derived.WalkKit
import Derived.WalkSpells
import Derived.WalkLawsBesides
namespace Go.Proofs.Ytokfiflflcfidaa
open Go.RowKit

theorem Try.infoStrP : (Try.prog.info? 9).map (fun i => (i.zero, i.size, i.bytes)) = some (some (.string ⟨#[]⟩), 1, 16) := by kernel_rfl
theorem ext_by {x : ByteArray} {l : List UInt8} (h : x.data.toList = l) : x = ⟨l.toArray⟩ := by
  obtain ⟨d⟩ := x
  congr 1
  exact Array.toList_inj.1 h
theorem ex_eq {s : ByteArray} {i j : Nat} {l : List UInt8} (h : (s.data.toList.take j).drop i = l) : s.extract i j = ⟨l.toArray⟩ :=
  ext_by (by rw [Lib.extract_data, ← List.drop_take]; exact h)

set_option maxRecDepth 100000 in
set_option maxHeartbeats 800000 in
theorem split_any (s : ByteArray) (hs : s.size ≤ 1000000) (c : UInt8) (w : World) :
    Calls Try.prog 48 #[.string s, .int .u8 ((c.toNat : Nat) : Int)] w fun r w' => ∃ v, r = .returned v ∧ OwnS w' w.heap.size 9 v (spS c s.data.toList) ∧ Below w.heap.size w w' := by
  have HL : Hid (s.data.toList.length = s.size) := byP_len s
  go_enter Try.func48, Try.ntmps48
  go_wp2
  go_loopw [5, 6, 7] (fun v f i wr => ∃ n m : Nat, n ≤ s.size ∧ i = .int .i64 n ∧ f = .int .i64 m ∧ m + (spT c (s.data.toList.take n)).2.length = n ∧ OwnS wr w.heap.size 9 v (spT c (s.data.toList.take n)).1 ∧ Below w.heap.size w wr) (fun _ _ i _ => s.size - (intOf i).toNat)
  case atStart => exact ⟨0, 0, Nat.zero_le _, rfl, rfl, rfl, OwnS.nil _ _ _, Below.refl _ _⟩
  case round =>
    obtain ⟨n, m, hn, rfl, rfl, hm, hown, hb⟩ := hrel
    have HM : Hid _ := hm
    have HO : Hid (OwnS wr w.heap.size 9 _ _) := hown
    have HB : Hid _ := hb
    have hmn : m ≤ n := by omega
    obtain ⟨l1, l2, l3⟩ := spT_len c s.data.toList n (by rw [HL.out]; exact hn)
    have hex : s.extract m n = ⟨(spT c (s.data.toList.take n)).2.toArray⟩ := ex_eq (by rw [show m = n - (spT c (s.data.toList.take n)).2.length by omega]; exact l3)
    have HPL : Hid ((spT c (s.data.toList.take n)).1.length ≤ 1000000000) := by show _ ≤ _; omega
    clear hm hown hb l1 l2 l3
    by_cases hlt : n < s.size
    · have HT : Hid _ := spT_take c s.data.toList (show n < s.data.toList.length by rw [HL.out]; exact hlt)
      have hat : s.data.toList[n]?.getD 0 = s[n]'hlt := by rw [byP_at s n hlt]; rfl
      rw [hat] at HT
      have hq := byP_beq (s[n]'hlt) c
      have hni : (n : Int) < (s.size : Int) := by omega
      clear hat
      cases he : ((s[n]'hlt) == c)
      · rw [he] at hq
        have HF : Hid (¬ (s[n]'hlt) = c) := by rw [beq_eq_false_iff_ne] at he; exact he
        clear he hex
        go_wp2
        go_roundw
        case rel => exact ⟨n + 1, m, by omega, by go_num, rfl, by rw [HT.out, if_neg HF.out]; have := HM.out; simp; omega, by rw [HT.out, if_neg HF.out]; exact HO.out, HB.out⟩
        case measure => simp [intOf]; omega
      · rw [he] at hq
        have HF : Hid ((s[n]'hlt) = c) := by rw [beq_iff_eq] at he; exact he
        clear he
        go_wp2_with (at_builtin; refine wpList_pushS rfl _ _ 91 rfl w.heap.size 9 Try.underlying91 Try.infoStrP _ _ (spT c (s.data.toList.take n)).2 (by rfl) (by rfl) HO.out HPL.out HB.out.size ?_; intro v2 w2 h2 hb2; have HO2 : Hid (OwnS w2 w.heap.size 9 v2 ((spT c (s.data.toList.take n)).1 ++ [(spT c (s.data.toList.take n)).2])) := h2; have HB2 : Hid (Below w.heap.size w w2) := hb2.below HB.out HB.out.size HO.out; clear h2 hb2 HO hex)
        go_roundw
        case rel => exact ⟨n + 1, n + 1, by omega, by go_num, by go_num, by rw [HT.out, if_pos HF.out]; rfl, by rw [HT.out, if_pos HF.out]; exact HO2.out, HB2.out⟩
        case measure => simp [intOf]; omega
    · have hne : n = s.size := by omega
      subst hne
      have HTA : Hid (s.data.toList.take s.size = s.data.toList) := List.take_of_length_le (by rw [HL.out]; exact Nat.le_refl _)
      rw [HTA.out] at hex HPL HO
      have HSS : Hid (spS c s.data.toList = (spT c s.data.toList).1 ++ [(spT c s.data.toList).2]) := rfl
      go_wp2_with (at_builtin; refine wpList_pushS rfl _ _ 91 rfl w.heap.size 9 Try.underlying91 Try.infoStrP _ _ (spT c s.data.toList).2 (by rfl) (by rfl) HO.out HPL.out HB.out.size ?_; intro v2 w2 h2 hb2; have HO2 : Hid (OwnS w2 w.heap.size 9 v2 ((spT c s.data.toList).1 ++ [(spT c s.data.toList).2])) := h2; have HB2 : Hid (Below w.heap.size w w2) := hb2.below HB.out HB.out.size HO.out; clear h2 hb2 HO hex)
      go_ret
      exact ⟨v2, rfl, by rw [HSS.out]; exact HO2.out, HB2.out⟩

end Go.Proofs.Ytokfiflflcfidaa
