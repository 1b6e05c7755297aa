import Derived.Test.YtokfiflflcfidabDoorRows
import Derived.Test.YtokfiflflcfidabDoorBldR
import Derived.WalkKit
import Derived.WalkSpells
import Derived.WalkLawsBesides
import Derived.RegionTactic
import Derived.BigRegion
import Derived.Deep.RegionWith
import Derived.Deep.RegionLaw
import Derived.Deep.QuietTactic
import Derived.BigQuiet
namespace Go.Proofs.YtokfiflflcfidabDoor
open Go.RowKit

theorem wrTo_len (L : List Nat) (n : Nat) : (wrTo L n).length ≤ n := by
  induction n with
  | zero => exact Nat.le_refl _
  | succ n ih => rw [wrTo, List.length_append]; split <;> simp <;> omega
theorem wcTo_len (L : List Nat) (n : Nat) : (wcTo L n).length ≤ n := by
  induction n with
  | zero => exact Nat.le_refl _
  | succ n ih => rw [wcTo, List.length_append]; split <;> simp <;> omega

set_option maxRecDepth 100000 in
set_option maxHeartbeats 3200000 in
theorem wantedOf_any (L : List Nat) (g cap : Nat) (w : World) (hP : PRd w g L) (hE : ∀ x ∈ L, x < 14) (hl2 : L.length ≤ 64) (hV : ∀ i, i < L.length → vB L L.length i = vaOf L i)
    (hCl : ∀ i, i < L.length → (!bW (L[i]?.getD 0) && (isRf (L[prv L i]?.getD 0) || isFr (L[i]?.getD 0))) = (!kd L i && !lone L i)) (hW : ∀ c, cwTo L c L.length = wrs L c) :
    Calls Tryd.prog 69 #[.slice (some ⟨g, 0, none⟩) L.length cap, .int .i64 (L.countP lC : Nat)] w fun r w' => ∃ v, r = .returned v ∧ Own4 w' w.heap.size 100 v ((wantOf L).map q4C) ∧ Below w.heap.size w w' := by
  obtain ⟨i0, hi0, hz0, hz1, hz2⟩ := info_parts Tryd.infoPClaim
  have HVV : Hid _ := hV
  have HCL : Hid _ := hCl
  have HWW : Hid _ := hW
  have hCle : L.countP lC ≤ L.length := List.countP_le_length
  clear hV hCl hW
  go_enter Tryd.func69, Tryd.ntmps69
  go_wp2
  go_loopw [5, 12] (fun v i wr => ∃ n : Nat, n ≤ L.length ∧ i = .int .i64 n ∧ Own4 wr w.heap.size 100 v ((wrTo L n).map q4C) ∧ Below w.heap.size w wr) (fun _ i _ => L.length - (intOf i).toNat)
  case atStart => exact ⟨0, Nat.zero_le _, rfl, Own4.nil _ _ _, Below.refl _ _⟩
  case round =>
    obtain ⟨n, hn, rfl, hown, hb⟩ := hrel
    have hwl : (wrTo L n).length ≤ n := wrTo_len L n
    by_cases hlt : n < L.length
    · have hPr := hP.kept hb
      have q0 := hPr.into n hlt
      have q1 := hPr.out n hlt
      have q2 := hPr.thr n hlt
      have q3 := hPr.cel n hlt
      have q4 := hPr.reg n hlt
      have ha := getD_lt hE (prv L n)
      have he := getD_lt hE n
      have hgl := hPr.lt
      have hbs := hb.size
      have HB : Hid _ := hb
      have HO : Hid (Own4 wr w.heap.size 100 _ ((wrTo L n).map q4C)) := hown
      have hlq : ((wrTo L n).map q4C).length ≤ 300 := by rw [List.length_map]; omega
      have HS : Hid (wrTo L (n + 1) = wrTo L n ++ if (!kd L n && !lone L n) then [⟨(thrOf L n : Int), regOf L n, 0, vaOf L n⟩] else []) := rfl
      rw [← HCL.out n hlt] at HS
      have HVN : Hid _ := HVV.out n hlt
      have hval := valueAt_any L g cap n
      have HQ4 : Hid ((if kd L n then 0 else regOf L n) = (if bW (L[n]?.getD 0) then 0 else regOf L n)) := rfl
      rw [HQ4.out] at q4
      have hbn : ¬ (g = wr.heap.size) := by omega
      clear hPr hb hown HQ4
      generalize L[prv L n]?.getD 0 = a at *
      generalize L[n]?.getD 0 = e at *
      generalize thrOf L n = th at *
      generalize cellOf L n = c at *
      generalize vaOf L n = va at *
      generalize regOf L n = rr at *
      rw [HVN.out] at hval
      cases hcl : (!bW e && (isRf a || isFr e))
      · have HS2 : Hid (wrTo L (n + 1) = wrTo L n) := by show _ = _; rw [HS.out, hcl]; simp
        generalize (if bW e then 0 else rr) = rg at *
        go_wp2_with (go_at_call 86; refine (isClaimed_any a e th c rg ha he _).mono ?_; rintro r w1 ⟨rfl, hb1⟩; rw [hcl]; have HB1 : Hid (Below w.heap.size w w1) := (HB.out.alloc hbs _).trans (hb1.mono (Nat.le_trans hbs (by simp))); have HO1 : Hid _ := ownsRow_kept (World.ownsRow.alloc HO.out _) hb1; clear hb1)
        go_roundw
        case rel => exact ⟨n + 1, by omega, by go_num, by rw [HS2.out]; exact HO1.out, HB1.out⟩
        case measure => simp [intOf]; omega
      · have hbe : bW e = false := by
          cases h : bW e
          · rfl
          · rw [h] at hcl; cases hcl
        have HS2 : Hid ((wrTo L (n + 1)).map q4C = (wrTo L n).map q4C ++ [⟨(th : Int), (rr : Int), 0, (va : Int)⟩]) := by show _ = _; rw [HS.out, hcl]; simp [q4C]
        rw [hbe] at q4
        have q4' : wr.cell? ⟨g, n * 5 + 4, none⟩ = some (.int .i64 (rr : Int)) := q4
        clear q4 HS
        go_wp2_with fail
        refine (isClaimed_any a e th c rr ha he _).mono ?_
        rintro r w2 ⟨rfl, hb2⟩
        rw [hcl]
        have hOb : w2.heap[wr.heap.size]? = some (.cells #[.int .i64 a, .int .i64 e, .int .i64 th, .int .i64 c, .int .i64 rr] 110 (0, 0)) := (hb2.block _ (by simp)).trans (heap_alloc_new wr _)
        have HOW3 : Hid (Own4 w2 w.heap.size 100 _ ((wrTo L n).map q4C)) := ownsRow_kept (World.ownsRow.alloc HO.out _) hb2
        have hB2 : Below w.heap.size w w2 := (HB.out.alloc hbs _).trans (hb2.mono (Nat.le_trans hbs (by simp)))
        have HB2 : Hid _ := hB2
        obtain ⟨y0, y1, y2, y3, y4⟩ := ev_copy hOb
        have hsz2 : wr.heap.size < w2.heap.size := (Array.getElem?_eq_some_iff.1 hOb).1
        have hPR2 : PRd w2.drew g L := (hP.kept HB2.out).kept (below_drewN (Below.refl _ _) 1)
        have HVA : Hid _ := hval w2.drew hPR2 hE hlt hl2
        have hB2s := HB2.out.size
        clear hOb hb2 hB2 hval hPR2 q0 q1 q2 q3 q4'
        go_wp2
        go_region_law (first | (refine step_append_own rfl (.tmp 19) (.tmp 28) 50 rfl w.heap.size 100 i0 _ 4 32 Tryd.underlying50 hi0 hz0 hz1 hz2 rfl (by decide) _ _ _ (by simp [Act.eval]) (World.ownsRow.alloc HO4.out _) ⟨w3.heap.size, 0, none⟩ 1 1 (cells4 ⟨(th : Int), (rr : Int), 0, (va : Int)⟩) (by simp [Act.eval]) rfl (by exact four_new w3 100 ⟨(th : Int), (rr : Int), 0, (va : Int)⟩) (cells4_one _) (by unfold maxLen; omega) (by omega) (by simp; omega) ?_; intro v4 w4 hown4 hg4; have HO5 : Hid _ := hown4; have HB5 : Hid (Below w.heap.size w w4) := (HB4.out.alloc (by omega) _).grown hg4 (by simp; omega) (fun k hk => (World.ownsRow.lt HO4.out k hk).1); clear hown4 hg4) | (go_simp; go_wp2_with (go_at_call 85; refine Calls.mono HVA.out ?_; rintro r w3 ⟨rfl, hb3⟩; have x2 : w3.cell? ⟨wr.heap.size, 2, none⟩ = some (.int .i64 th) := (hb3.cell (p := ⟨wr.heap.size, 2, none⟩) hsz2).trans y2; have x4 : w3.cell? ⟨wr.heap.size, 4, none⟩ = some (.int .i64 rr) := (hb3.cell (p := ⟨wr.heap.size, 4, none⟩) hsz2).trans y4; have HO4 : Hid _ := ownsRow_kept (World.ownsRow.drew HOW3.out) hb3; have HB4 : Hid (Below w.heap.size w w3) := (below_drewN HB2.out 1).trans (hb3.mono hB2s); have hs3 : w.heap.size ≤ w3.heap.size := HB4.out.size; clear hb3)))
        all_goals go_wp2
        all_goals go_roundw
        all_goals first | exact ⟨n + 1, by omega, by go_num, by rw [HS2.out]; exact Own4.snoc HO5.out, HB5.out⟩ | (simp [intOf]; omega)
    · have hne : n = L.length := by omega
      subst hne
      have HB : Hid _ := hb
      have HO : Hid (Own4 wr w.heap.size 100 _ ((wrTo L L.length).map q4C)) := hown
      clear hb hown
      go_wp2
      go_loopw [5, 8] (fun v i wr => ∃ c : Nat, c ≤ L.countP lC ∧ i = .int .i64 c ∧ Own4 wr w.heap.size 100 v ((wrTo L L.length ++ wcTo L c).map q4C) ∧ Below w.heap.size w wr) (fun _ i _ => L.countP lC - (intOf i).toNat)
      case atStart => exact ⟨0, Nat.zero_le _, rfl, by simpa [wcTo] using HO.out, HB.out⟩
      case round =>
        clear HB HO
        obtain ⟨c, hc, rfl, hown, hb⟩ := hrel
        have hwc : (wcTo L c).length ≤ c := wcTo_len L c
        by_cases hclt : c < L.countP lC
        · have hcw := countWrites_any L g cap c wr (hP.kept hb) hE hl2
          rw [HWW.out c] at hcw
          have hfew : wrs L c ≤ L.length := by rw [← HWW.out c]; exact cwTo_le L c _
          have HS : Hid (wcTo L (c + 1) = wcTo L c ++ if wrs L c = 2 then [⟨-1, 0, c, 2⟩] else []) := rfl
          have hlq : ((wrTo L L.length ++ wcTo L c).map q4C).length ≤ 300 := by simp; omega
          have hbs := hb.size
          have HB : Hid _ := hb
          have HO : Hid (Own4 wr w.heap.size 100 _ ((wrTo L L.length ++ wcTo L c).map q4C)) := hown
          clear hb hown
          generalize wrs L c = x at *
          go_wp2_with fail
          refine Calls.mono hcw ?_
          rintro r w1 ⟨rfl, hb1⟩
          have HB1 : Hid (Below w.heap.size w w1) := HB.out.trans (hb1.mono hbs)
          have HO1 : Hid (Own4 w1 w.heap.size 100 _ ((wrTo L L.length ++ wcTo L c).map q4C)) := ownsRow_kept HO.out hb1
          clear hcw hb1
          by_cases hx : x = 2
          · have hxI : ((x : Int) == 2) = true := by rw [beq_iff_eq]; omega
            have HS2 : Hid ((wrTo L L.length ++ wcTo L (c + 1)).map q4C = (wrTo L L.length ++ wcTo L c).map q4C ++ [⟨-1, 0, (c : Int), (x : Int)⟩]) := by show _ = _; rw [HS.out, if_pos hx, hx]; simp [q4C]
            clear hx HS
            go_wp2_with (at_builtin; go_must (refine wpList_push4 rfl _ _ 50 rfl w.heap.size 100 Tryd.underlying50 Tryd.infoPClaim _ _ (⟨-1, 0, (c : Int), (x : Int)⟩ : Q4) (by rfl) (by rfl) HO1.out (by omega) HB1.out.size ?_); intro v3 w3 hown3 hg3; have HO3 : Hid _ := hown3; have HB3 : Hid (Below w.heap.size w w3) := hg3.below HB1.out HB1.out.size HO1.out; clear hown3 hg3)
            go_roundw
            case rel => exact ⟨c + 1, by omega, by go_num, by rw [HS2.out]; exact HO3.out, HB3.out⟩
            case measure => simp [intOf]; omega
          · have hxI : ((x : Int) == 2) = false := by rw [beq_eq_false_iff_ne]; omega
            have HS2 : Hid (wcTo L (c + 1) = wcTo L c) := by show _ = _; rw [HS.out, if_neg hx]; simp
            clear hx HS
            go_wp2
            go_roundw
            case rel => exact ⟨c + 1, by omega, by go_num, by rw [HS2.out]; exact HO1.out, HB1.out⟩
            case measure => simp [intOf]; omega
        · go_wp2
          go_ret
          have hce : c = L.countP lC := by omega
          subst hce
          exact ⟨_, rfl, hown, hb⟩

end Go.Proofs.YtokfiflflcfidabDoor
