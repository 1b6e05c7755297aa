import Derived.Test.YtokfiflflcfidaaDoorRows
import Derived.Test.YtokfiflflcfidaaDoorPlain
import Derived.Test.YtokfiflflcfidaaDoorParse
import Derived.Test.YtokfiflflcfidaaDoorMem
import Derived.Test.YtokfiflflcfidaaDoorMem2
import Derived.Test.YtokfiflflcfidaaDoorPreds
import Derived.Test.YtokfiflflcfidaaDoorProgA
import Derived.Test.YtokfiflflcfidaaDoorParseW
import Derived.Test.YtokfiflflcfidaaDoorText
import Derived.Test.YtokfiflflcfidaaDoorSpell
import Derived.Test.YtokfiflflcfidaaDoorListM
import Derived.Test.YtokfiflflcfidaaDoorListP
import Derived.WalkKit
import Derived.WalkSpells
import Derived.WalkLawsBesides
namespace Go.Proofs.YtokfiflflcfidaaDoor
open Go.RowKit

/-- what the listing of the bases of at most n edges answers -/
def LbAns (w' : World) (base : Nat) (n most : Nat) (v : Value) (ok : Bool) : Prop :=
  ((basesTo n).length ≤ most ∧ ok = true ∧ OwnS w' base 9 v ((basesTo n).map tx)) ∨ (most < (basesTo n).length ∧ ok = false ∧ v = .slice none 0 0)

theorem pow6 {k : Nat} (h : k ≤ 6) : 14 ^ k ≤ 7529536 := by
  have : 14 ^ k ≤ 14 ^ 6 := Nat.pow_le_pow_right (by omega) h
  exact this

set_option maxRecDepth 100000 in
set_option maxHeartbeats 2000000 in
theorem listBases_any (n most : Nat) (w : World) (hT : TabN w) (hn6 : n ≤ 6) (hm : most ≤ 4000) :
    Calls Tryd.prog 39 #[.int .i64 n, .int .i64 most] w fun r w' => ∃ v ok, r = .returned (.tuple #[v, .bool ok]) ∧ LbAns w' w.heap.size n most v ok ∧ Below w.heap.size w w' := by
  go_enter Tryd.func39, Tryd.ntmps39
  go_wp2_with fail
  refine (firstHeads_any _).mono ?_
  rintro r w1 ⟨v1, rfl, hown1, hb1⟩
  have hrd1 := hown1.read (v0 := .slice none 0 0) (lev_pos 1) (fun k hk => by simp [Value.ownBlock] at hk)
  go_wp2
  go_loopw [6, 7, 8] (fun v hv i wr => ∃ k : Nat, k ≤ n ∧ i = .int .i64 ((k : Int) + 1) ∧ OwnS wr w.heap.size 9 v ((basesTo k).map tx) ∧ (basesTo k).length ≤ most ∧ (k < n → RdH wr v hv (lev cP (k + 1))) ∧ Below w.heap.size w wr) (fun _ _ i _ => n + 1 - (intOf i).toNat)
  case atStart => exact ⟨0, Nat.zero_le _, by go_num, OwnS.nil _ _ _, Nat.zero_le _, fun _ => hrd1, hb1⟩
  case round =>
    clear hown1 hrd1 hb1
    obtain ⟨k, hk, rfl, hown, hle, hrd, hb⟩ := hrel
    by_cases hkn : k < n
    · have hrd2 := hrd hkn
      have hrd0 := hrd2
      obtain ⟨g, cap, hv, hoff, hgl, hcells⟩ := hrd0
      subst hv
      have HMEM : Hid (∀ l ∈ lev cP (k + 1), l.length = k + 1 ∧ ∀ x ∈ l, x < 14) := fun l hl => mem_lev hl
      have hLL : (lev cP (k + 1)).length ≤ 7529536 := Nat.le_trans (lev_length cP (k + 1)) (pow6 (by omega))
      have HFZ : Hid _ := foundTo_zero k
      have HFS : Hid _ := fun j h => foundTo_succ k j h
      have HFF : Hid _ := foundTo_full k
      have HFL : Hid _ := fun j => foundTo_le k n j hkn
      clear hrd hcells hgl hoff
      have hnx := fun (v0 : Value) (wx : World) (h : RdH wx v0 (.slice (some ⟨g, 0, none⟩) (lev cP (k + 1)).length cap) (lev cP (k + 1))) => longerHeads_any (lev cP (k + 1)) v0 _ wx (k + 1) h HMEM.out (by omega) (by omega) (by omega)
      have HNX : Hid _ := hnx
      clear hnx
      have HLEV : Hid ((lev cP (k + 1)).flatMap (nxt cP) = lev cP (k + 1 + 1)) := rfl
      generalize hL : lev cP (k + 1) = L at *
      clear hL
      have hdk : decide ((k : Int) + 1 ≤ (n : Int)) = true := by simp; omega
      go_wp2
      go_loopw [6, 19] (fun v i wr => ∃ j : Nat, j ≤ L.length ∧ i = .int .i64 j ∧ OwnS wr w.heap.size 9 v ((foundTo k j).map tx) ∧ (foundTo k j).length ≤ most ∧ RdH wr v (.slice (some ⟨g, 0, none⟩) L.length cap) L ∧ Below w.heap.size w wr) (fun _ i _ => L.length - (intOf i).toNat)
      case atStart => exact ⟨0, Nat.zero_le _, rfl, by rw [HFZ.out]; exact hown, by rw [HFZ.out]; exact hle, hrd2, hb⟩
      case round =>
        clear hown hle hrd2 hb
        obtain ⟨j, hj, rfl, hown, hle, hrd, hb⟩ := hrel
        by_cases hjl : j < L.length
        · have hrd0 := hrd
          obtain ⟨g', cap', hv', hoff, hgl, hcells⟩ := hrd0
          obtain ⟨gi, ci, hc, hoi, hA⟩ := hcells j hjl
          simp only [Value.slice.injEq, Option.some.injEq, Addr.mk.injEq, and_true, true_and] at hv'
          have hgg : g' = g := hv'.1.symm
          subst hgg
          have hmem := HMEM.out (L[j]'hjl) (List.getElem_mem _)
          have hge : L[j]?.getD [] = L[j]'hjl := by simp [hjl]
          rw [← hge] at hmem
          have HS : Hid _ := HFS.out j hjl
          clear hge hv' hcells hoff hgl
          generalize L[j]?.getD [] = h at *
          have HEE : Hid _ := hmem.2
          have hh0 : 0 < h.length := by omega
          have hh1 : h.length ≤ 100 := by omega
          clear hmem
          have HNE := HFL.out (j + 1)
          have HNL : Hid _ := HNE
          clear HNE
          obtain ⟨va, vc, hvl⟩ := hown.lenV
          rw [List.length_map] at hvl
          subst hvl
          cases hib : isB h
          · have HQ : Hid (foundTo k (j + 1) = foundTo k j) := by show _ = _; rw [HS.out, hib]; simp
            go_wp2_with fail
            refine (isBase_any h gi 0 ci _ hA HEE.out hh0 (by omega)).mono ?_
            rintro r w2 ⟨rfl, hb2⟩
            rw [hib]
            have hgr := Grew.of_below (.slice va (foundTo k j).length vc) hb2
            have hown2 := hown.kept hb2
            have hrd2 := hrd.grew hgr
            have hbb := hb.trans (hb2.mono hb.size)
            clear hown hrd hb hgr hc hA hoi
            go_wp2
            go_roundw
            case rel => exact ⟨j + 1, by omega, by go_num, by rw [HQ.out]; exact hown2, by rw [HQ.out]; exact hle, hrd2, hbb⟩
            case measure => simp [intOf]; omega
          · have HQ : Hid (foundTo k (j + 1) = foundTo k j ++ [h]) := by show _ = _; rw [HS.out, hib]; simp
            go_wp2_with fail
            refine (isBase_any h gi 0 ci _ hA HEE.out hh0 (by omega)).mono ?_
            rintro r w2 ⟨rfl, hb2⟩
            rw [hib]
            have hgr := Grew.of_below (.slice va (foundTo k j).length vc) hb2
            have hown2 := hown.kept hb2
            have hrd2 := hrd.grew hgr
            have hA2 := hA.kept hb2
            have hbb := hb.trans (hb2.mono hb.size)
            clear hown hrd hb hgr hc hA hoi
            by_cases hfull : most ≤ (foundTo k j).length
            · go_wp2
              go_ret2
              refine ⟨.slice none 0 0, false, rfl, Or.inr ⟨?_, rfl, rfl⟩, hbb⟩
              have := HNL.out
              rw [HQ.out] at this
              simp at this
              omega
            · have hmp : (((foundTo k j) ++ [h]).map tx) = (foundTo k j).map tx ++ [tx h] := by simp
              have HMP : Hid _ := hmp
              clear hmp
              have hlm : ((foundTo k j).map tx).length ≤ 1000000000 := by rw [List.length_map]; omega
              have HLQ : Hid ((foundTo k j ++ [h]).length ≤ most) := by show _ ≤ _; simp; omega
              have hTb := hT.kept hbb
              go_wp2_with fail
              refine (spell_any h gi 0 ci _ hA2 HEE.out hh0 (by omega) hTb).mono ?_
              rintro r w3 ⟨rfl, hb3⟩
              have hown3 := hown2.kept hb3
              have hrd3 := hrd2.grew (Grew.of_below _ hb3)
              have hbb3 := hbb.trans (hb3.mono hbb.size)
              clear hown2 hrd2 hbb hb3
              go_wp2_with (at_builtin; go_must (refine wpList_pushS rfl _ _ 33 rfl w.heap.size 9 Tryd.underlying33 Tryd.infoString _ _ (tx h) (by rfl) (by rfl) hown3 hlm hbb3.size ?_); intro v4 w4 hown4 hgr; have hrd4 := hrd3.grew hgr; have hb4 := hgr.below hbb3 hbb3.size hown3; clear hown3 hgr hrd3 hbb3)
              go_roundw
              case rel => exact ⟨j + 1, by omega, by go_num, by rw [HQ.out, HMP.out]; exact hown4, by rw [HQ.out]; exact HLQ.out, hrd4, hb4⟩
              case measure => simp [intOf]; omega
        · have hje : j = L.length := by omega
          subst hje
          rw [HFF.out] at hown hle
          by_cases hkn2 : k + 1 < n
          · go_wp2_with fail
            refine (HNX.out _ _ hrd).mono ?_
            rintro r w2 ⟨v2, rfl, hown2, hb2⟩
            have hownS2 := hown.kept hb2
            have hbb := hb.trans (hb2.mono hb.size)
            rw [HLEV.out] at hown2
            have hlt := fun kk hk => (World.ownsRow.lt hown kk hk).2
            have hrd2 := hown2.read (v0 := u6) (lev_pos _) hlt
            clear hown hrd hb hown2 hlt
            go_wp2
            go_roundw
            case rel => exact ⟨k + 1, by omega, by go_num, hownS2, hle, fun _ => hrd2, hbb⟩
            case measure => simp [intOf]; omega
          · go_wp2
            go_roundw
            case rel => exact ⟨k + 1, by omega, by go_num, hown, hle, fun h => absurd h hkn2, hb⟩
            case measure => simp [intOf]; omega
    · have hke : k = n := by omega
      subst hke
      go_wp2
      go_ret2
      exact ⟨_, true, rfl, Or.inl ⟨hle, rfl, hown⟩, hb⟩

end Go.Proofs.YtokfiflflcfidaaDoor
