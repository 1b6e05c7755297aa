import Derived.Test.YtokfiflflcfidabDoorRows
import Derived.Test.YtokfiflflcfidabDoorPlain
import Derived.Test.YtokfiflflcfidabDoorParse
import Derived.Test.YtokfiflflcfidabDoorMem
import Derived.Test.YtokfiflflcfidabDoorPreds
import Derived.Test.YtokfiflflcfidabDoorRefA
import Derived.Test.YtokfiflflcfidabDoorParseW
import Derived.WalkKit
import Derived.WalkSpells
import Derived.WalkLawsBesides
import Derived.Deep.QuietTactic
import Derived.BigQuiet
namespace Go.Proofs.YtokfiflflcfidabDoor
open Go.RowKit

/-- what 'edges' answers for the text s -/
def EdgesAns (w w' : World) (s : List UInt8) (v : Value) (p : Int) (ok : Bool) : Prop :=
  (isE s = true ∧ ok = true ∧ p = 0 ∧ Own w' w.heap.size 3 v (edgesOf s)) ∨ (isE s = false ∧ ok = false ∧ p = (rdP s : Nat) ∧ v = .slice none 0 0)

set_option maxRecDepth 100000 in
set_option maxHeartbeats 800000 in
theorem edges_any (s : ByteArray) (hs : s.size ≤ 1000) (w : World) (hT : TabR w) :
    Calls Tryd.prog 28 #[.string s] w fun r w' => ∃ v p ok, r = .returned (.tuple #[v, .int .i64 p, .bool ok]) ∧ EdgesAns w w' s.data.toList v p ok ∧ Below w.heap.size w w' := by
  go_enter Tryd.func28, Tryd.ntmps28
  go_wp2
  go_loopw [5, 6] (fun v i wr => ∃ n : Nat, n ≤ s.size ∧ n % 4 = 0 ∧ i = .int .i64 n ∧ (∀ j, j < n → okAt s.data.toList j = true) ∧ Own wr w.heap.size 3 v (edgesTo s.data.toList n) ∧ Below w.heap.size w wr) (fun _ i _ => s.size - (intOf i).toNat)
  case atStart => exact ⟨0, Nat.zero_le _, rfl, rfl, fun j hj => absurd hj (by omega), Own.nil _ _ _, Below.refl _ _⟩
  case round =>
    obtain ⟨n, hn, h4, rfl, hall, hown, hb⟩ := hrel
    have HA : Hid _ := hall
    have H4 : Hid _ := h4
    clear hall h4
    have hsd := size_data s
    have HX : Hid ((s.extract n s.size).data.toList = s.data.toList.drop n) := Lib.extract_to_end s n
    have hxs : (s.extract n s.size).size ≤ 1000 := by rw [← size_data, HX.out]; simp; omega
    go_wp2_with fail
    refine (matches_any _ hxs _ (hT.below _ hb (Nat.le_refl _))).mono ?_
    rintro r w1 ⟨rfl, hb1⟩
    rw [HX.out]
    have hm := mt_le (s.data.toList.drop n) 14
    have hm1 := hm.1
    clear hm
    have hbb := hb.trans (hb1.mono hb.size)
    have hown' := hown.kept hb1
    clear hown hb1
    by_cases hw : (mt (s.data.toList.drop n) 14).1 < 3
    · have S3 := stop_word HA.out H4.out (by omega) hw
      have HS : Hid _ := S3
      clear S3
      generalize (mt (s.data.toList.drop n) 14).1 = p at *
      generalize (mt (s.data.toList.drop n) 14).2 = q at *
      go_wp2
      go_ret3
      exact ⟨.slice none 0 0, _, false, rfl, Or.inr ⟨HS.out.1, rfl, by rw [HS.out.2.2]; simp, rfl⟩, hbb⟩
    · have P3 := pass_word HA.out H4.out (show (mt (s.data.toList.drop n) 14).1 = 3 by omega)
      have HP : Hid _ := P3
      have hn3 := P3.1
      have hpe : (mt (s.data.toList.drop n) 14).1 = 3 := by omega
      clear P3
      rw [hpe]
      generalize (mt (s.data.toList.drop n) 14).2 = q at *
      generalize (mt (s.data.toList.drop n) 14).1 = p at *
      clear hpe hw hm1
      have hlen2 : (edgesTo s.data.toList n).length ≤ 1000 := by rw [edgesTo_length]; omega
      by_cases hend : n + 3 = s.size
      · have hendi : ((n : Int) + 3 == (s.size : Int)) = true := by rw [beq_iff_eq]; omega
        go_wp2_with (at_builtin; go_must (refine wpList_pushN rfl _ _ 25 rfl w.heap.size w.heap.size w 3 Tryd.underlying25 Tryd.infoInt _ _ q (by rfl) (by rfl) hown' (by omega) hbb (Nat.le_refl _) hbb.size ?_); intro v' w2 hown1 hb2 _; clear hown' hbb)
        go_ret3
        have S3 := stop_whole (s := s.data.toList) (by rw [hsd, ← hend]; exact HP.out.2.2.2) (by have := H4.out; rw [hsd]; omega)
        refine ⟨_, 0, true, rfl, Or.inl ⟨S3.1, rfl, rfl, ?_⟩, hb2⟩
        unfold edgesOf
        rw [hsd, ← hend, HP.out.2.2.1]
        exact hown1
      · have hendi : ((n : Int) + 3 == (s.size : Int)) = false := by rw [beq_eq_false_iff_ne]; omega
        have hlt : n + 3 < s.size := by omega
        have HO : Hid (okAt s.data.toList (n + 3) = (((s[n + 3].toNat : Nat) : Int) == 32)) := by
          show _ = _
          rw [okAt_blank (by have := H4.out; omega), byte_at s (n + 3) hlt, ← beq_byte]; rfl
        cases hbl : (((s[n + 3].toNat : Nat) : Int) == 32)
        · go_wp2_with (at_builtin; go_must (refine wpList_pushN rfl _ _ 25 rfl w.heap.size w.heap.size w 3 Tryd.underlying25 Tryd.infoInt _ _ q (by rfl) (by rfl) hown' (by omega) hbb (Nat.le_refl _) hbb.size ?_); intro v' w2 hown1 hb2 _; clear hown' hbb)
          go_ret3
          have S3 := stop_at HP.out.2.2.2 (by omega) (by rw [HO.out, hbl])
          exact ⟨.slice none 0 0, _, false, rfl, Or.inr ⟨S3.1, rfl, by rw [S3.2.2]; simp, rfl⟩, hb2⟩
        · go_wp2_with (at_builtin; go_must (refine wpList_pushN rfl _ _ 25 rfl w.heap.size w.heap.size w 3 Tryd.underlying25 Tryd.infoInt _ _ q (by rfl) (by rfl) hown' (by omega) hbb (Nat.le_refl _) hbb.size ?_); intro v' w2 hown1 hb2 _; clear hown' hbb)
          go_roundw
          case rel =>
            refine ⟨n + 4, by omega, by have := H4.out; omega, by go_num, fun j hj => ?_, ?_, hb2⟩
            · by_cases hjn : j = n + 3
              · rw [hjn, HO.out, hbl]
              · exact HP.out.2.2.2 j (by omega)
            · rw [edgesTo_same (n := n + 3) (by have := H4.out; omega), HP.out.2.2.1]; exact hown1
          case measure => simp [intOf]; omega

end Go.Proofs.YtokfiflflcfidabDoor
