import Derived.Test.YtokfiflflcfidaaRows
import Derived.Test.YtokfiflflcfidaaPsC
import Derived.WalkKit
import Derived.WalkSpells
import Derived.WalkLawsBesides
namespace Go.Proofs.Ytokfiflflcfidaa
open Go.RowKit

/-- v reads as the texts l -/
def TxL (w : World) (v : Value) (l : List (List UInt8)) : Prop :=
  ∃ a cap, v = .slice a l.length cap ∧ ∀ i, i < l.length → ∃ b off, a = some ⟨b, off, none⟩ ∧ b < w.heap.size ∧ w.cell? ⟨b, off + i, none⟩ = some (.string ⟨(l[i]?.getD []).toArray⟩)
/-- the threads of the lines -/
def thrs : Nat → List (List UInt8) → List (List Q4)
  | _, [] => []
  | k, x :: xs => if k < 16 ∧ thrB k x = true then thrR k x :: thrs (k + 1) xs else []
theorem thrs_yes {k : Nat} {L : List (List UInt8)} {i : Nat} (hi : i < L.length) (hk : k < 16) (h : thrB k (L[i]?.getD []) = true) : thrs k (L.drop i) = thrR k (L[i]?.getD []) :: thrs (k + 1) (L.drop (i + 1)) := by
  rw [List.getElem?_eq_getElem hi] at h ⊢
  rw [List.drop_eq_getElem_cons hi]
  exact if_pos ⟨hk, h⟩
theorem thrs_no {k : Nat} {L : List (List UInt8)} {i : Nat} (hi : i < L.length) (h : ¬ (k < 16 ∧ thrB k (L[i]?.getD []) = true)) : thrs k (L.drop i) = [] := by
  rw [List.getElem?_eq_getElem hi] at h
  rw [List.drop_eq_getElem_cons hi]
  exact if_neg h
theorem Own44.belowP {w0 w w' : World} {base T : Nat} {v v' : Value} {c : List (List Q4)} (h : Own44 w base T v c) (hg : Grew w w' v v') (hb : Below base w0 w) (hB : base ≤ w.heap.size) : Below base w0 w' := by
  obtain ⟨cells, h1, _⟩ := h
  exact hg.below hb hB h1
theorem Own44.keptP {w w' : World} {base T : Nat} {v : Value} {c : List (List Q4)} (h : Own44 w base T v c) (hb : Below w.heap.size w w') : Own44 w' base T v c :=
  Own44.span h (Span.of_below (lo := 0) hb (Nat.le_refl _)) (Nat.zero_le _) (Nat.le_refl _)

set_option maxRecDepth 100000 in
set_option maxHeartbeats 1600000 in
theorem readThreads_any (L : List (List UInt8)) (v : Value) (w : World) (hR : TxL w v L) (hwb : ∀ i : Nat, (L[i]?.getD []).length ≤ 900000) :
    Calls Try.prog 50 #[v] w fun r w' => ∃ v', r = .returned v' ∧ Own44 w' w.heap.size 51 v' (thrs 0 L) ∧ Below w.heap.size w w' := by
  obtain ⟨a, cap, rfl, hcell⟩ := hR
  have HCELL : Hid _ := hcell
  have HWB : Hid _ := hwb
  obtain ⟨T, hT⟩ : ∃ T, thrs 0 L = T := ⟨_, rfl⟩
  have HT : Hid _ := hT
  rw [hT]
  obtain ⟨ln, hln⟩ : ∃ n, L.length = n := ⟨_, rfl⟩
  have HLN : Hid _ := hln
  rw [hln] at HCELL ⊢
  clear hcell hwb hT hln
  go_enter Try.func50, Try.ntmps50
  go_wp2
  go_loopw [3, 10] (fun v i wr => ∃ (j : Nat) (rs : List (List Q4)), j ≤ ln ∧ i = .int .i64 j ∧ rs ++ thrs j (L.drop j) = T ∧ rs.length = j ∧ j ≤ 16 ∧ Own44 wr w.heap.size 51 v rs ∧ Below w.heap.size w wr) (fun _ i _ => ln - (intOf i).toNat)
  case atStart => exact ⟨0, [], Nat.zero_le _, rfl, HT.out, rfl, by omega, Own44.nil _ _ _, Below.refl _ _⟩
  case round =>
    obtain ⟨j, rs, hj, rfl, hrs, hrl, hj16, hO, hb⟩ := hrel
    have HRS : Hid _ := hrs
    have HRL : Hid _ := hrl
    have HO : Hid (Own44 wr w.heap.size 51 _ rs) := hO
    have HB : Hid (Below w.heap.size w wr) := hb
    have hsz := hb.size
    clear hrs hrl hO hb
    by_cases hlt : j < ln
    · obtain ⟨b, off, rfl, hbl, hc⟩ := HCELL.out j hlt
      have hcw := (HB.out.cell (p := ⟨b, off + j, none⟩) hbl).trans hc
      have HJL : Hid (j < L.length) := by show _ < _; rw [HLN.out]; exact hlt
      have hbw : b < wr.heap.size := by omega
      clear hc
      by_cases h16 : j < 16
      · have h16i : ¬ ((16 : Int) ≤ (j : Int)) := by omega
        have hda : (⟨(L[j]?.getD []).toArray⟩ : ByteArray).data.toList = L[j]?.getD [] := by_data _
        have HRT : Hid _ := fun wx => readThreadLine_any ⟨(L[j]?.getD []).toArray⟩ (by rw [by_size]; exact HWB.out j) j h16 wx
        rw [hda] at HRT
        have HYES : Hid (thrB j (L[j]?.getD []) = true → thrs j (L.drop j) = thrR j (L[j]?.getD []) :: thrs (j + 1) (L.drop (j + 1))) := fun h => thrs_yes HJL.out h16 h
        have HNO : Hid (thrB j (L[j]?.getD []) = false → thrs j (L.drop j) = []) := fun h => thrs_no HJL.out (fun k => by rw [h] at k; cases k.2)
        clear hda
        generalize (⟨(L[j]?.getD []).toArray⟩ : ByteArray) = wd at *
        obtain ⟨row, hrow⟩ : ∃ x, thrR j (L[j]?.getD []) = x := ⟨_, rfl⟩
        obtain ⟨ok, hok⟩ : ∃ x, thrB j (L[j]?.getD []) = x := ⟨_, rfl⟩
        rw [hrow, hok] at HRT HYES
        rw [hok] at HNO
        clear hrow hok
        cases ok
        · have HN2 : Hid (T = rs) := by show _ = _; rw [← HRS.out, HNO.out rfl, List.append_nil]
          clear HNO HYES
          go_wp2_with (go_at_call 67; refine Calls.mono (HRT.out _) ?_; rintro r w3 ⟨v3, rfl, hO3, hb3⟩; have HO3 : Hid _ := Own44.keptP HO.out hb3; have HB3 : Hid (Below w.heap.size w w3) := HB.out.trans (hb3.mono hsz); clear hb3 hO3 hcw)
          go_ret
          exact ⟨_, rfl, by rw [HN2.out]; exact HO3.out, HB3.out⟩
        · have HY2 : Hid (rs ++ [row] ++ thrs (j + 1) (L.drop (j + 1)) = T) := by show _ = _; rw [List.append_assoc, List.singleton_append, ← HYES.out rfl]; exact HRS.out
          clear HNO HYES
          go_wp2_with (first | (go_at_call 67; refine Calls.mono (HRT.out _) ?_; rintro r w3 ⟨v3, rfl, hO3, hb3⟩; obtain ⟨ra, rc, hv3⟩ := Own4.len hO3; obtain ⟨rn, hrn⟩ : ∃ n, row.length = n := ⟨_, rfl⟩; rw [hrn] at hv3; subst hv3; have HR3 : Hid (Own4 w3 wr.heap.size 55 (.slice ra rn rc) row) := hO3; have HO3 : Hid _ := Own44.keptP HO.out hb3; have HS3 : Hid (wr.heap.size ≤ w3.heap.size) := hb3.size; have HB3 : Hid (Below w.heap.size w w3) := HB.out.trans (hb3.mono hsz); clear hb3 hO3 hcw hrn) | (at_builtin; refine wpList_push44 rfl _ _ 26 rfl w.heap.size 51 Try.underlying26 Try.infoMInss _ rs row _ wr.heap.size 55 HR3.out hsz (fun b hb => (Own44.lt HO.out hb).2) (by rfl) (by rfl) HO3.out (show rs.length ≤ 1000000000000 by rw [HRL.out]; omega) HB3.out.size ?_; intro v4 w4 h4 g4; have HO4 : Hid (Own44 w4 w.heap.size 51 v4 (rs ++ [row])) := h4; have HB4 : Hid (Below w.heap.size w w4) := Own44.belowP HO3.out g4 HB3.out HB3.out.size; clear h4 g4 HO3 HR3))
          go_roundw
          case rel => exact ⟨j + 1, rs ++ [row], by omega, by go_num, HY2.out, by rw [List.length_append, HRL.out]; rfl, by omega, HO4.out, HB4.out⟩
          case measure => simp [intOf]; omega
      · have h16i : (16 : Int) ≤ (j : Int) := by omega
        have HN2 : Hid (T = rs) := by show _ = _; rw [← HRS.out, thrs_no HJL.out (fun k => h16 k.1), List.append_nil]
        go_wp2
        go_ret
        exact ⟨_, rfl, by rw [HN2.out]; exact HO.out, HB.out⟩
    · have HN2 : Hid (T = rs) := by show _ = _; rw [← HRS.out, List.drop_eq_nil_of_le (by rw [HLN.out]; omega)]; simp [thrs]
      go_wp2
      go_ret
      exact ⟨_, rfl, by rw [HN2.out]; exact HO.out, HB.out⟩

end Go.Proofs.Ytokfiflflcfidaa
