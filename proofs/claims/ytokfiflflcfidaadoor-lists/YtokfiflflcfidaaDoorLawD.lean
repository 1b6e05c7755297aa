import Derived.Test.YtokfiflflcfidaaDoorRows
import Derived.Test.YtokfiflflcfidaaDoorPlain
import Derived.Test.YtokfiflflcfidaaDoorParse
import Derived.Test.YtokfiflflcfidaaDoorMem
import Derived.Test.YtokfiflflcfidaaDoorMem2
import Derived.Test.YtokfiflflcfidaaDoorPreds
import Derived.Test.YtokfiflflcfidaaDoorParseW
import Derived.Test.YtokfiflflcfidaaDoorText
import Derived.Test.YtokfiflflcfidaaDoorListM
import Derived.Test.YtokfiflflcfidaaDoorListP
import Derived.Test.YtokfiflflcfidaaDoorListQ
import Derived.Test.YtokfiflflcfidaaDoorListR
import Derived.WalkKit
import Derived.WalkSpells
import Derived.WalkLawsBesides
import Derived.Deep.QuietTactic
import Derived.BigQuiet
import Derived.Lib.SliceRun
namespace Go.Proofs.YtokfiflflcfidaaDoor
open Go.RowKit

def RangeBad (n most : Int) : Prop := n < 0 ∨ 6 < n ∨ most < 0 ∨ 4000 < most
/-- what either All answers -/
def AllAns (w' : World) (base : Nat) (n most : Int) (v : Value) (e : Int) : Prop :=
  (RangeBad n most ∧ e = 11 ∧ v = .slice none 0 0) ∨
  (¬ RangeBad n most ∧ ((basesTo n.toNat).length ≤ most.toNat ∧ e = 0 ∧ OwnS w' base 9 v ((basesTo n.toNat).map tx) ∨ most.toNat < (basesTo n.toNat).length ∧ e = 12 ∧ v = .slice none 0 0))

theorem basesTo_length (n : Nat) (h : n ≤ 6) : (basesTo n).length ≤ n * 7529536 := by
  induction n with
  | zero => simp [basesTo]
  | succ n ih =>
    rw [basesTo, List.length_append]
    have h1 := ext_length (n + 1) []
    have h2 := pow6 h
    have := ih (by omega)
    omega

set_option maxRecDepth 100000 in
set_option maxHeartbeats 800000 in
theorem allP_any (n most : Int) (w : World) (hT : TabN w) :
    Calls Tryd.prog 16 #[.int .i64 n, .int .i64 most] w fun r w' => ∃ v e, r = .returned (.tuple #[v, .int .i64 e]) ∧ AllAns w' w.heap.size n most v e ∧ Below w.heap.size w w' := by
  by_cases h1 : n < 0
  · go_enter Tryd.func16, Tryd.ntmps16
    go_wp2
    go_ret2
    exact ⟨.slice none 0 0, 11, rfl, Or.inl ⟨Or.inl h1, rfl, rfl⟩, Below.refl _ _⟩
  · by_cases h2 : 6 < n
    · go_enter Tryd.func16, Tryd.ntmps16
      go_wp2
      go_ret2
      exact ⟨.slice none 0 0, 11, rfl, Or.inl ⟨Or.inr (Or.inl h2), rfl, rfl⟩, Below.refl _ _⟩
    · by_cases h3 : most < 0
      · go_enter Tryd.func16, Tryd.ntmps16
        go_wp2
        go_ret2
        exact ⟨.slice none 0 0, 11, rfl, Or.inl ⟨Or.inr (Or.inr (Or.inl h3)), rfl, rfl⟩, Below.refl _ _⟩
      · by_cases h4 : 4000 < most
        · go_enter Tryd.func16, Tryd.ntmps16
          go_wp2
          go_ret2
          exact ⟨.slice none 0 0, 11, rfl, Or.inl ⟨Or.inr (Or.inr (Or.inr h4)), rfl, rfl⟩, Below.refl _ _⟩
        · have HB : Hid (¬ RangeBad n most) := by
            show ¬ _
            unfold RangeBad
            omega
          obtain ⟨n, rfl⟩ := Int.eq_ofNat_of_zero_le (show 0 ≤ n by omega)
          obtain ⟨most, rfl⟩ := Int.eq_ofNat_of_zero_le (show 0 ≤ most by omega)
          go_enter Tryd.func16, Tryd.ntmps16
          go_wp2_with fail
          refine (listBases_any n most _ hT (by omega) (by omega)).mono ?_
          rintro r w1 ⟨v, ok, rfl, hans, hb⟩
          rcases hans with ⟨hle, rfl, hown⟩ | ⟨hgt, rfl, rfl⟩
          · go_wp2
            go_ret2
            exact ⟨_, 0, rfl, Or.inr ⟨HB.out, Or.inl ⟨by rw [Int.toNat_natCast, Int.toNat_natCast]; exact hle, rfl, by rw [Int.toNat_natCast]; exact hown⟩⟩, hb⟩
          · go_wp2
            go_ret2
            exact ⟨.slice none 0 0, 12, rfl, Or.inr ⟨HB.out, Or.inr ⟨by rw [Int.toNat_natCast, Int.toNat_natCast]; exact hgt, rfl, rfl⟩⟩, hb⟩

set_option maxRecDepth 100000 in
set_option maxHeartbeats 800000 in
theorem allR_any (n most : Int) (w : World) (hT : TabR w) :
    Calls Tryd.prog 17 #[.int .i64 n, .int .i64 most] w fun r w' => ∃ v e, r = .returned (.tuple #[v, .int .i64 e]) ∧ AllAns w' w.heap.size n most v e ∧ Below w.heap.size w w' := by
  by_cases h1 : n < 0
  · go_enter Tryd.func17, Tryd.ntmps17
    go_wp2
    go_ret2
    exact ⟨.slice none 0 0, 11, rfl, Or.inl ⟨Or.inl h1, rfl, rfl⟩, Below.refl _ _⟩
  · by_cases h2 : 6 < n
    · go_enter Tryd.func17, Tryd.ntmps17
      go_wp2
      go_ret2
      exact ⟨.slice none 0 0, 11, rfl, Or.inl ⟨Or.inr (Or.inl h2), rfl, rfl⟩, Below.refl _ _⟩
    · by_cases h3 : most < 0
      · go_enter Tryd.func17, Tryd.ntmps17
        go_wp2
        go_ret2
        exact ⟨.slice none 0 0, 11, rfl, Or.inl ⟨Or.inr (Or.inr (Or.inl h3)), rfl, rfl⟩, Below.refl _ _⟩
      · by_cases h4 : 4000 < most
        · go_enter Tryd.func17, Tryd.ntmps17
          go_wp2
          go_ret2
          exact ⟨.slice none 0 0, 11, rfl, Or.inl ⟨Or.inr (Or.inr (Or.inr h4)), rfl, rfl⟩, Below.refl _ _⟩
        · have HB : Hid (¬ RangeBad n most) := by
            show ¬ _
            unfold RangeBad
            omega
          obtain ⟨n, rfl⟩ := Int.eq_ofNat_of_zero_le (show 0 ≤ n by omega)
          obtain ⟨most, rfl⟩ := Int.eq_ofNat_of_zero_le (show 0 ≤ most by omega)
          have hn6 : n ≤ 6 := by omega
          go_enter Tryd.func17, Tryd.ntmps17
          go_wp2
          go_loopw [6, 7] (fun v i wr => ∃ k : Nat, k ≤ n ∧ i = .int .i64 ((k : Int) + 1) ∧ OwnS wr w.heap.size 9 v ((basesTo k).map tx) ∧ Below w.heap.size w wr) (fun _ i _ => n + 1 - (intOf i).toNat)
          case atStart => exact ⟨0, Nat.zero_le _, by go_num, OwnS.nil _ _ _, Below.refl _ _⟩
          case round =>
            obtain ⟨k, hk, rfl, hown, hb⟩ := hrel
            by_cases hkn : k < n
            · have hbl := basesTo_length k (by omega)
              have hp := pow6 (k := k + 1) (by omega)
              have hcl := grown_any w hT (k + 1) [] (.slice none 0 0) u6 _ wr (k + 1) (by simp) (by omega) (by omega) (fun x hx => by simp at hx) (Or.inl ⟨rfl, rfl⟩) hown (by rw [List.length_map]; omega) hb
              have HQ : Hid (basesTo (k + 1) = basesTo k ++ ext (k + 1) []) := rfl
              have ec : ((k + 1 : Nat) : Int) = (k : Int) + 1 := by omega
              rw [ec] at hcl
              have HCL : Hid _ := hcl
              clear hbl hp hcl ec
              go_wp2_with fail
              refine Calls.mono HCL.out ?_
              rintro r w2 ⟨v2, rfl, hown2, hgr⟩
              have hbb := hgr.below hb hb.size hown
              clear HCL hgr
              go_wp2
              go_roundw
              case rel => exact ⟨k + 1, by omega, by go_num, by rw [HQ.out, List.map_append]; exact hown2, hbb⟩
              case measure => simp [intOf]; omega
            · have hke : k = n := by omega
              subst hke
              obtain ⟨va, vc, hvl⟩ := hown.lenV
              rw [List.length_map] at hvl
              subst hvl
              by_cases hle : (basesTo k).length ≤ most
              · go_wp2
                go_ret2
                exact ⟨_, 0, rfl, Or.inr ⟨HB.out, Or.inl ⟨by rw [Int.toNat_natCast, Int.toNat_natCast]; exact hle, rfl, by rw [Int.toNat_natCast]; exact hown⟩⟩, hb⟩
              · go_wp2
                go_ret2
                exact ⟨.slice none 0 0, 12, rfl, Or.inr ⟨HB.out, Or.inr ⟨by rw [Int.toNat_natCast, Int.toNat_natCast]; omega, rfl, rfl⟩⟩, hb⟩

theorem OwnS.shape {w : World} {base T : Nat} {v : Value} {l : List (List UInt8)} (h : OwnS w base T v l) (hl : 0 < l.length) :
    ∃ g cap, v = .slice (some ⟨g, 0, none⟩) l.length cap ∧ base ≤ g ∧ g < w.heap.size ∧ ∀ i, i < l.length → w.cell? ⟨g, i, none⟩ = some (.string ⟨(l[i]?.getD []).toArray⟩) := by
  have h' := h
  rcases h.2 with ⟨_, hn⟩ | ⟨g, cap, cur, rfl, hbg, hgg, _⟩
  · rw [textsV_length] at hn; omega
  · refine ⟨g, cap, by rw [textsV_length], hbg, (Array.getElem?_eq_some_iff.1 hgg).1, fun k hk => ?_⟩
    have := h'.cells (g := g) rfl k (.string ⟨(l[k]?.getD []).toArray⟩) (by simp [textsV, hk])
    have hadd : (⟨g, 0, none⟩ : Addr).add k = ⟨g, k, none⟩ := by unfold Addr.add; split <;> simp_all
    rwa [hadd] at this

set_option maxRecDepth 100000 in
set_option maxHeartbeats 800000 in
theorem sameTexts_any (l : List (List UInt8)) (v1 v2 : Value) (B1 B2 : Nat) (w : World) (hl : l.length ≤ 1000000000) (h1 : OwnS w B1 9 v1 l) (h2 : OwnS w B2 9 v2 l) :
    Calls Tryd.prog 18 #[v1, v2] w fun r w' => r = .returned (.bool true) ∧ Below w.heap.size w w' := by
  by_cases h0 : 0 < l.length
  · obtain ⟨g1, c1, rfl, _, hg1, hc1⟩ := h1.shape h0
    obtain ⟨g2, c2, rfl, _, hg2, hc2⟩ := h2.shape h0
    have HC1 : Hid _ := hc1
    have HC2 : Hid _ := hc2
    clear hc1 hc2 h1 h2
    go_enter Tryd.func18, Tryd.ntmps18
    go_wp2
    go_loopw [5] (fun i wr => ∃ n : Nat, n ≤ l.length ∧ i = .int .i64 n ∧ Below w.heap.size w wr) (fun i _ => l.length - (intOf i).toNat)
    case atStart => exact ⟨0, Nat.zero_le _, rfl, Below.refl _ _⟩
    case round =>
      obtain ⟨n, hn, rfl, hb⟩ := hrel
      by_cases hlt : n < l.length
      · have hx1 := (hb.cell (p := ⟨g1, n, none⟩) hg1).trans (HC1.out n hlt)
        have hx2 := (hb.cell (p := ⟨g2, n, none⟩) hg2).trans (HC2.out n hlt)
        generalize l[n]?.getD [] = t at *
        go_wp2
        go_quiet (fail)
        go_wp2
        go_roundw
        case rel => exact ⟨n + 1, by omega, by go_num, below_drewN hb _⟩
        case measure => simp [intOf]; omega
      · go_wp2
        go_ret
        exact ⟨rfl, hb⟩
  · have hl0 : l = [] := List.eq_nil_of_length_eq_zero (by omega)
    subst hl0
    obtain ⟨a1, c1, rfl⟩ := h1.lenV
    obtain ⟨a2, c2, rfl⟩ := h2.lenV
    clear h1 h2 h0 hl
    go_enter Tryd.func18, Tryd.ntmps18
    go_wp2
    go_loop [5] (fun i => i = .int .i64 0) (fun _ => 0)
    case atStart => rfl
    case round =>
      obtain rfl := hrel
      go_wp2
      go_ret
      exact ⟨rfl, Below.refl _ _⟩

set_option maxRecDepth 100000 in
set_option maxHeartbeats 800000 in
theorem lists_any (n most : Int) (w : World) (hT : TabN w) (hR : TabR w) :
    Calls Tryd.prog 6 #[.int .i64 n, .int .i64 most] w fun r w' => r = .returned (.bool true) ∧ Below w.heap.size w w' := by
  have hnil := fun (wx : World) => Lib.run_eql_slice_nil (P := Tryd.prog) wx 33 9 none 0 0 0 0 Tryd.underlying33
  go_enter Tryd.func6, Tryd.ntmps6
  go_wp2_with fail
  refine (allP_any n most _ hT).mono ?_
  rintro r w1 ⟨v1, e1, rfl, ha1, hb1⟩
  go_wp2_with fail
  refine (allR_any n most _ (hR.kept hb1)).mono ?_
  rintro r w2 ⟨v2, e2, rfl, ha2, hb2⟩
  have hbb := hb1.trans (hb2.mono hb1.size)
  rcases ha1 with ⟨hr1, rfl, rfl⟩ | ⟨hr1, ⟨hl1, rfl, ho1⟩ | ⟨hl1, rfl, rfl⟩⟩
  · rcases ha2 with ⟨hr2, rfl, rfl⟩ | ⟨hr2, _⟩
    · clear hr1 hr2
      go_wp2_with (go_at_call 13; refine (num_any _ _).mono ?_; rintro r w3 ⟨rfl, rfl⟩)
      go_ret
      exact ⟨rfl, hbb⟩
    · exact absurd hr1 hr2
  · rcases ha2 with ⟨hr2, _⟩ | ⟨hr2, ⟨hl2, rfl, ho2⟩ | ⟨hl2, _⟩⟩
    · exact absurd hr2 hr1
    · have hst := sameTexts_any _ v1 v2 _ _ w2 (by rw [List.length_map]; have := basesTo_length n.toNat (by unfold RangeBad at hr1; omega); unfold RangeBad at hr1; omega) (ho1.kept hb2) ho2
      have HST : Hid _ := hst
      clear hr1 hr2 hst ho1 ho2 hl1 hl2
      go_wp2_with (go_at_call 13; refine (num_any _ _).mono ?_; rintro r w3 ⟨rfl, rfl⟩)
      refine Calls.mono HST.out ?_
      rintro r w4 ⟨rfl, hb4⟩
      go_wp2
      go_ret
      exact ⟨rfl, hbb.trans (hb4.mono hbb.size)⟩
    · omega
  · rcases ha2 with ⟨hr2, _⟩ | ⟨hr2, ⟨hl2, _⟩ | ⟨hl2, rfl, rfl⟩⟩
    · exact absurd hr2 hr1
    · omega
    · clear hr1 hr2 hl1 hl2
      go_wp2_with (go_at_call 13; refine (num_any _ _).mono ?_; rintro r w3 ⟨rfl, rfl⟩)
      go_ret
      exact ⟨rfl, hbb⟩

end Go.Proofs.YtokfiflflcfidaaDoor
