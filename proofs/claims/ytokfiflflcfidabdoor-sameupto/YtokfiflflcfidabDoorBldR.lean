import Derived.Test.YtokfiflflcfidabDoorRows
import Derived.Test.YtokfiflflcfidabDoorEvMem
import Derived.Test.YtokfiflflcfidabDoorBldQ
import Derived.WalkKit
import Derived.WalkSpells
import Derived.WalkLawsBesides
import Derived.RegionTactic
import Derived.BigRegion
import Derived.Deep.RegionWith
import Derived.Deep.RegionLaw
import Derived.Deep.QuietTactic
import Derived.BigQuiet
namespace Go.Proofs.YtokfiflflcfidabDoor
open Go.RowKit

theorem Tryd.infoPIns : (Tryd.prog.info? 97).map (fun i => (i.zero, i.size, i.bytes)) = some (some (.agg #[.int .i64 0, .int .i64 0, .int .i64 0, .int .i64 0]), 4, 32) := by kernel_rfl
theorem Tryd.infoPClaim : (Tryd.prog.info? 100).map (fun i => (i.zero, i.size, i.bytes)) = some (some (.agg #[.int .i64 0, .int .i64 0, .int .i64 0, .int .i64 0]), 4, 32) := by kernel_rfl
theorem Tryd.infoPInss : (Tryd.prog.info? 95).map (fun i => (i.zero, i.size, i.bytes)) = some (some (.slice none 0 0), 1, 24) := by kernel_rfl

/-- how many of the first n events write cell c -/
def cwTo (L : List Nat) (c n : Nat) : Nat := (List.range n).countP fun i => kd L i && cellOf L i == c
theorem cwTo_succ (L : List Nat) (c n : Nat) : cwTo L c (n + 1) = cwTo L c n + b1 (kd L n && cellOf L n == c) := by
  unfold cwTo b1; rw [List.range_succ, List.countP_append]; simp [List.countP_cons]
theorem cwTo_le (L : List Nat) (c n : Nat) : cwTo L c n ≤ n := by
  have := List.countP_le_length (p := fun i => kd L i && cellOf L i == c) (l := List.range n)
  rw [List.length_range] at this
  exact this

set_option maxRecDepth 100000 in
set_option maxHeartbeats 800000 in
theorem countWrites_any (L : List Nat) (g cap k : Nat) (w : World) (hP : PRd w g L) (hE : ∀ x ∈ L, x < 14) (hl2 : L.length ≤ 64) :
    Calls Tryd.prog 87 #[.slice (some ⟨g, 0, none⟩) L.length cap, .int .i64 k] w fun r w' => r = .returned (.int .i64 (cwTo L k L.length : Nat)) ∧ Below w.heap.size w w' := by
  go_enter Tryd.func87, Tryd.ntmps87
  go_wp2
  go_loopw [5, 10] (fun v i wr => ∃ n : Nat, n ≤ L.length ∧ i = .int .i64 n ∧ v = .int .i64 (cwTo L k n : Nat) ∧ Below w.heap.size w wr) (fun _ i _ => L.length - (intOf i).toNat)
  case atStart => exact ⟨0, Nat.zero_le _, rfl, rfl, Below.refl _ _⟩
  case round =>
    obtain ⟨n, hn, rfl, rfl, hb⟩ := hrel
    have hcl := cwTo_le L k n
    by_cases hlt : n < L.length
    · have hPr := hP.kept hb
      have q0 := hPr.into n hlt
      have q1 := hPr.out n hlt
      have q2 := hPr.thr n hlt
      have q3 := hPr.cel n hlt
      have q4 := hPr.reg n hlt
      have HS : Hid (cwTo L k (n + 1) = cwTo L k n + b1 (bW (L[n]?.getD 0) && cellOf L n == k)) := cwTo_succ L k n
      have he := getD_lt hE n
      have HB : Hid _ := hb
      have hgl := hPr.lt
      clear hPr hb
      generalize L[prv L n]?.getD 0 = a at *
      generalize L[n]?.getD 0 = e at *
      generalize thrOf L n = t at *
      generalize cellOf L n = c at *
      generalize (if kd L n then 0 else regOf L n) = rg at *
      generalize cwTo L k n = x at *
      have hbn : ¬ (g = wr.heap.size) := by omega
      by_cases hc : c = k
      · have hcI : ((c : Int) == (k : Int)) = true := by rw [beq_iff_eq]; omega
        have HS2 : Hid (cwTo L k (n + 1) = x + b1 (bW e)) := by show _ = _; rw [HS.out, hc]; simp
        clear hc HS
        cases hw : bW e
        · rw [hw] at HS2
          go_wp2_with (go_at_call 53; refine (isWrite_any a e t c rg he _).mono ?_; rintro r w1 ⟨rfl, hb1⟩; rw [hw]; have HB1 : Hid (Below w.heap.size w w1) := (HB.out.alloc HB.out.size _).trans (hb1.mono (by have := HB.out.size; simp; omega)); clear hb1)
          go_roundw
          case rel => exact ⟨n + 1, by omega, by go_num, by rw [HS2.out]; simp [b1], HB1.out⟩
          case measure => simp [intOf]; omega
        · rw [hw] at HS2
          go_wp2_with (go_at_call 53; refine (isWrite_any a e t c rg he _).mono ?_; rintro r w1 ⟨rfl, hb1⟩; rw [hw]; have HB1 : Hid (Below w.heap.size w w1) := (HB.out.alloc HB.out.size _).trans (hb1.mono (by have := HB.out.size; simp; omega)); clear hb1)
          go_roundw
          case rel => exact ⟨n + 1, by omega, by go_num, by rw [HS2.out]; simp [b1], HB1.out⟩
          case measure => simp [intOf]; omega
      · have hcI : ((c : Int) == (k : Int)) = false := by rw [beq_eq_false_iff_ne]; omega
        have HS2 : Hid (cwTo L k (n + 1) = x) := by show _ = _; rw [HS.out, beq_eq_false_iff_ne.2 hc]; simp [b1]
        clear hc HS
        go_wp2
        go_roundw
        case rel => exact ⟨n + 1, by omega, by go_num, by rw [HS2.out], HB.out.alloc HB.out.size _⟩
        case measure => simp [intOf]; omega
    · go_wp2
      go_ret
      have : n = L.length := by omega
      subst this
      exact ⟨rfl, hb⟩

theorem map_snocI (l : List RIns) (x : RIns) : (l ++ [x]).map q4I = l.map q4I ++ [q4I x] := by simp
theorem map_snocC (l : List RCl) (x : RCl) : (l ++ [x]).map q4C = l.map q4C ++ [q4C x] := by simp

theorem Own4.snoc {w : World} {base T : Nat} {v : Value} {l : List Q4} {e : Q4} (h : w.ownsRow base T 4 v (l.length + 1) (l.flatMap cells4 ++ cells4 e)) : Own4 w base T v (l ++ [e]) := by
  unfold Own4
  rw [List.flatMap_append, List.length_append]
  simpa using h

/-- the program's copy of an event, in a later world -/
theorem ev_copy {w w' : World} {T : Nat} {a b c d e : Value} (h : w'.heap[w.heap.size]? = some (.cells #[a, b, c, d, e] T (0, 0))) :
    w'.cell? ⟨w.heap.size, 0, none⟩ = some a ∧ w'.cell? ⟨w.heap.size, 1, none⟩ = some b ∧ w'.cell? ⟨w.heap.size, 2, none⟩ = some c ∧ w'.cell? ⟨w.heap.size, 3, none⟩ = some d ∧ w'.cell? ⟨w.heap.size, 4, none⟩ = some e := by
  refine ⟨?_, ?_, ?_, ?_, ?_⟩ <;> rw [cell_of_row _ _ _ _ _ _ h] <;> rfl

set_option maxRecDepth 100000 in
set_option maxHeartbeats 3200000 in
theorem threadCode_any (L : List Nat) (g cap t : Nat) (w : World) (hP : PRd w g L) (hE : ∀ x ∈ L, x < 14) (hl2 : L.length ≤ 64) (hV : ∀ i, i < L.length → vB L L.length i = vaOf L i) :
    Calls Tryd.prog 68 #[.slice (some ⟨g, 0, none⟩) L.length cap, .int .i64 t] w fun r w' => ∃ v, r = .returned v ∧ Own4 w' w.heap.size 97 v ((cdTo L t L.length).map q4I) ∧ Below w.heap.size w w' := by
  obtain ⟨i0, hi0, hz0, hz1, hz2⟩ := info_parts Tryd.infoPIns
  have HVV : Hid _ := hV
  clear hV
  go_enter Tryd.func68, Tryd.ntmps68
  go_wp2
  go_loopw [5, 10] (fun v i wr => ∃ n : Nat, n ≤ L.length ∧ i = .int .i64 n ∧ Own4 wr w.heap.size 97 v ((cdTo L t n).map q4I) ∧ Below w.heap.size w wr) (fun _ i _ => L.length - (intOf i).toNat)
  case atStart => exact ⟨0, Nat.zero_le _, rfl, Own4.nil _ _ _, Below.refl _ _⟩
  case round =>
    obtain ⟨n, hn, rfl, hown, hb⟩ := hrel
    by_cases hlt : n < L.length
    · have hPr := hP.kept hb
      have HPR : Hid _ := hPr
      have q0 := hPr.into n hlt
      have q1 := hPr.out n hlt
      have q2 := hPr.thr n hlt
      have q3 := hPr.cel n hlt
      have q4 := hPr.reg n hlt
      have ha := getD_lt hE (prv L n)
      have he := getD_lt hE n
      have hgl := hPr.lt
      have hbs := hb.size
      have HB : Hid _ := hb
      have HO : Hid _ := hown
      have hcl : ((cdTo L t n).map q4I).length ≤ 1000000000000 := by rw [List.length_map]; have := cdTo_len L t n; omega
      have hcl2 : ((cdTo L t n).map q4I).length ≤ 200 := by rw [List.length_map]; have := cdTo_len L t n; omega
      have HCE : Hid (cdTo L t (n + 1) = cdTo L t n ++ if thrOf L n = t then em L n else []) := rfl
      have HEM : Hid (em L n = (if fE (L[prv L n]?.getD 0) then [fenI] else []) ++ [if bW (L[n]?.getD 0) then ⟨1, 0, cellOf L n, vaOf L n⟩ else ⟨2, (if bW (L[n]?.getD 0) then 0 else regOf L n), cellOf L n, 0⟩]) := by
        show _ = _
        unfold em insE kd
        cases bW (L[n]?.getD 0) <;> rfl
      have HVN : Hid _ := HVV.out n hlt
      have hval := valueAt_any L g cap n
      have HQ4 : Hid ((if kd L n then 0 else regOf L n) = (if bW (L[n]?.getD 0) then 0 else regOf L n)) := rfl
      rw [HQ4.out] at q4
      clear hPr hb hown HQ4
      generalize L[prv L n]?.getD 0 = a at *
      generalize L[n]?.getD 0 = e at *
      generalize thrOf L n = th at *
      generalize cellOf L n = c at *
      generalize (if bW e then 0 else regOf L n) = rg at *
      generalize vaOf L n = va at *
      rw [HVN.out] at hval
      have hbn : ¬ (g = wr.heap.size) := by omega
      by_cases hth : th = t
      · have hthI : ((th : Int) != (t : Int)) = false := by rw [hth]; simp
        have HCT : Hid (cdTo L t (n + 1) = cdTo L t n ++ em L n) := by show _ = _; rw [HCE.out, if_pos hth]
        clear hth HCE
        cases hf : fE a
        · cases hw : bW e
          · rw [hf, hw] at HEM
            have HCD : Hid ((cdTo L t (n + 1)).map q4I = (cdTo L t n).map q4I ++ [⟨2, (rg : Int), (c : Int), 0⟩]) := by show _ = _; rw [HCT.out, HEM.out]; simp [q4I]
            go_wp2_with (first | (go_at_call 84; refine (isFence_any a ha _).mono ?_; rintro r w6 ⟨rfl, rfl⟩; rw [hf]) )
            refine (isWrite_any a e th c rg he _).mono ?_
            rintro r w2 ⟨rfl, hb2⟩
            rw [hw]
            have hOb : w2.heap[wr.heap.size]? = some (.cells #[.int .i64 a, .int .i64 e, .int .i64 th, .int .i64 c, .int .i64 rg] 110 (0, 0)) := (hb2.block _ (by simp)).trans (heap_alloc_new wr _)
            have HOW2 : Hid _ := ownsRow_kept (World.ownsRow.alloc HO.out _) hb2
            have hB2 : Below w.heap.size w w2 := (HB.out.alloc hbs _).trans (hb2.mono (by simp; omega))
            clear q0 q1 q2 q3 q4
            have HB2 : Hid _ := hB2
            obtain ⟨y0, y1, y2, y3, y4⟩ := ev_copy hOb
            have hsz2 : wr.heap.size < w2.heap.size := (Array.getElem?_eq_some_iff.1 hOb).1
            clear hOb hb2 hB2
            have hlq : ((cdTo L t n).map q4I).length ≤ 300 := by simp; have := cdTo_len L t n; omega
            have HOW3 : Hid (Own4 w2 w.heap.size 97 _ ((cdTo L t n).map q4I)) := HOW2.out
            go_wp2_with (at_builtin; go_must (refine wpList_push4 rfl _ _ 95 rfl w.heap.size 97 Tryd.underlying95 Tryd.infoPIns _ _ (⟨2, (rg : Int), (c : Int), 0⟩ : Q4) (by rfl) (by simp [Act.eval]) HOW3.out (by omega) (by have := HB2.out.size; omega) ?_); intro v3 w3 hown3 hg3; have HO3 : Hid _ := hown3; have HB3 : Hid (Below w.heap.size w w3) := hg3.below HB2.out HB2.out.size HOW3.out; clear hown3 hg3 y0 y1 y2 y3 y4)
            go_roundw
            case rel => exact ⟨n + 1, by omega, by go_num, by rw [HCD.out]; exact HO3.out, HB3.out⟩
            case measure => simp [intOf]; omega
          · rw [hf, hw] at HEM
            have HCD : Hid ((cdTo L t (n + 1)).map q4I = (cdTo L t n).map q4I ++ [⟨1, 0, (c : Int), (va : Int)⟩]) := by show _ = _; rw [HCT.out, HEM.out]; simp [q4I]
            go_wp2_with (first | (go_at_call 84; refine (isFence_any a ha _).mono ?_; rintro r w6 ⟨rfl, rfl⟩; rw [hf]) )
            refine (isWrite_any a e th c rg he _).mono ?_
            rintro r w2 ⟨rfl, hb2⟩
            rw [hw]
            have hOb : w2.heap[wr.heap.size]? = some (.cells #[.int .i64 a, .int .i64 e, .int .i64 th, .int .i64 c, .int .i64 rg] 110 (0, 0)) := (hb2.block _ (by simp)).trans (heap_alloc_new wr _)
            have HOW2 : Hid _ := ownsRow_kept (World.ownsRow.alloc HO.out _) hb2
            have hB2 : Below w.heap.size w w2 := (HB.out.alloc hbs _).trans (hb2.mono (by simp; omega))
            clear q0 q1 q2 q3 q4
            have HB2 : Hid _ := hB2
            obtain ⟨y0, y1, y2, y3, y4⟩ := ev_copy hOb
            have hsz2 : wr.heap.size < w2.heap.size := (Array.getElem?_eq_some_iff.1 hOb).1
            clear hOb hb2 hB2
            have hlq : ((cdTo L t n).map q4I).length ≤ 300 := by simp; have := cdTo_len L t n; omega
            have HOW3 : Hid (Own4 w2 w.heap.size 97 _ ((cdTo L t n).map q4I)) := HOW2.out
            have hPR2 : PRd w2.drew g L := (hP.kept HB2.out).kept (below_drewN (Below.refl _ _) 1)
            have HVA : Hid _ := hval w2.drew hPR2 hE hlt hl2
            have hB2s := HB2.out.size
            clear hval hPR2
            go_wp2
            go_region_law (first | (refine step_append_own rfl (.tmp 28) (.tmp 35) 95 rfl w.heap.size 97 i0 _ 4 32 Tryd.underlying95 hi0 hz0 hz1 hz2 rfl (by decide) _ _ _ (by simp [Act.eval]) (World.ownsRow.alloc HO4.out _) ⟨w3.heap.size, 0, none⟩ 1 1 (cells4 ⟨1, 0, (c : Int), (va : Int)⟩) (by simp [Act.eval]) rfl (by exact four_new w3 97 ⟨1, 0, (c : Int), (va : Int)⟩) (cells4_one _) (by unfold maxLen; omega) (by omega) (by simp; omega) ?_; intro v4 w4 hown4 hg4; have HO5 : Hid _ := hown4; have HB5 : Hid (Below w.heap.size w w4) := (HB4.out.alloc (by omega) _).grown hg4 (by simp; omega) (fun k hk => (World.ownsRow.lt HO4.out k hk).1); clear hown4 hg4) | (go_simp; go_wp2_with (go_at_call 85; refine Calls.mono HVA.out ?_; rintro r w3 ⟨rfl, hb3⟩; have x3 : w3.cell? ⟨wr.heap.size, 3, none⟩ = some (.int .i64 c) := (hb3.cell (p := ⟨wr.heap.size, 3, none⟩) hsz2).trans y3; have HO4 : Hid _ := ownsRow_kept (World.ownsRow.drew HOW3.out) hb3; have HB4 : Hid (Below w.heap.size w w3) := (below_drewN HB2.out 1).trans (hb3.mono hB2s); have hs3 : w.heap.size ≤ w3.heap.size := HB4.out.size; clear hb3)))
            all_goals go_wp2
            all_goals go_roundw
            all_goals first | exact ⟨n + 1, by omega, by go_num, by rw [HCD.out]; exact Own4.snoc HO5.out, HB5.out⟩ | (simp [intOf]; omega)
        · cases hw : bW e
          · rw [hf, hw] at HEM
            have HCD : Hid ((cdTo L t (n + 1)).map q4I = ((cdTo L t n).map q4I ++ [⟨3, 0, 0, 0⟩]) ++ [⟨2, (rg : Int), (c : Int), 0⟩]) := by show _ = _; rw [HCT.out, HEM.out]; simp [q4I, fenI]
            go_wp2_with (first | (go_at_call 84; refine (isFence_any a ha _).mono ?_; rintro r w6 ⟨rfl, rfl⟩; rw [hf]) | (at_builtin; go_must (refine wpList_push4 rfl _ _ 95 rfl w.heap.size 97 Tryd.underlying95 Tryd.infoPIns _ _ (⟨3, 0, 0, 0⟩ : Q4) (by rfl) (by simp [Act.eval]) (World.ownsRow.alloc HO.out _) hcl (by simp; omega) ?_); intro v' w1 hown1 hg1; (have hOb : w1.heap[wr.heap.size]? = some (.cells #[.int .i64 a, .int .i64 e, .int .i64 th, .int .i64 c, .int .i64 rg] 110 (0, 0)) := (hg1.block (by simp) (fun he => absurd (World.ownsRow.lt HO.out _ he).2 (Nat.lt_irrefl _))).trans (heap_alloc_new wr _); obtain ⟨z0, z1, z2, z3, z4⟩ := ev_copy hOb; have HOB : Hid _ := hOb; have HOW : Hid _ := hown1; have HBW : Hid (Below w.heap.size w w1) := hg1.below (HB.out.alloc hbs _) (Nat.le_trans hbs (by simp)) (World.ownsRow.alloc HO.out _); have hszw : wr.heap.size < w1.heap.size := Nat.lt_of_lt_of_le (by simp) hg1.size; clear hown1 hg1 hOb q0 q1 q2 q3 q4)))
            refine (isWrite_any a e th c rg he _).mono ?_
            rintro r w2 ⟨rfl, hb2⟩
            rw [hw]
            have hOb : w2.heap[wr.heap.size]? = some (.cells #[.int .i64 a, .int .i64 e, .int .i64 th, .int .i64 c, .int .i64 rg] 110 (0, 0)) := (hb2.block _ hszw).trans HOB.out
            have HOW2 : Hid _ := ownsRow_kept HOW.out hb2
            have hB2 : Below w.heap.size w w2 := HBW.out.trans (hb2.mono HBW.out.size)
            clear z0 z1 z2 z3 z4
            have HB2 : Hid _ := hB2
            obtain ⟨y0, y1, y2, y3, y4⟩ := ev_copy hOb
            have hsz2 : wr.heap.size < w2.heap.size := (Array.getElem?_eq_some_iff.1 hOb).1
            clear hOb hb2 hB2
            have hlq : ((cdTo L t n).map q4I ++ [(⟨3, 0, 0, 0⟩ : Q4)]).length ≤ 300 := by simp; have := cdTo_len L t n; omega
            have HOW3 : Hid (Own4 w2 w.heap.size 97 _ ((cdTo L t n).map q4I ++ [(⟨3, 0, 0, 0⟩ : Q4)])) := HOW2.out
            go_wp2_with (at_builtin; go_must (refine wpList_push4 rfl _ _ 95 rfl w.heap.size 97 Tryd.underlying95 Tryd.infoPIns _ _ (⟨2, (rg : Int), (c : Int), 0⟩ : Q4) (by rfl) (by simp [Act.eval]) HOW3.out (by omega) (by have := HB2.out.size; omega) ?_); intro v3 w3 hown3 hg3; have HO3 : Hid _ := hown3; have HB3 : Hid (Below w.heap.size w w3) := hg3.below HB2.out HB2.out.size HOW3.out; clear hown3 hg3 y0 y1 y2 y3 y4)
            go_roundw
            case rel => exact ⟨n + 1, by omega, by go_num, by rw [HCD.out]; exact HO3.out, HB3.out⟩
            case measure => simp [intOf]; omega
          · rw [hf, hw] at HEM
            have HCD : Hid ((cdTo L t (n + 1)).map q4I = ((cdTo L t n).map q4I ++ [⟨3, 0, 0, 0⟩]) ++ [⟨1, 0, (c : Int), (va : Int)⟩]) := by show _ = _; rw [HCT.out, HEM.out]; simp [q4I, fenI]
            go_wp2_with (first | (go_at_call 84; refine (isFence_any a ha _).mono ?_; rintro r w6 ⟨rfl, rfl⟩; rw [hf]) | (at_builtin; go_must (refine wpList_push4 rfl _ _ 95 rfl w.heap.size 97 Tryd.underlying95 Tryd.infoPIns _ _ (⟨3, 0, 0, 0⟩ : Q4) (by rfl) (by simp [Act.eval]) (World.ownsRow.alloc HO.out _) hcl (by simp; omega) ?_); intro v' w1 hown1 hg1; (have hOb : w1.heap[wr.heap.size]? = some (.cells #[.int .i64 a, .int .i64 e, .int .i64 th, .int .i64 c, .int .i64 rg] 110 (0, 0)) := (hg1.block (by simp) (fun he => absurd (World.ownsRow.lt HO.out _ he).2 (Nat.lt_irrefl _))).trans (heap_alloc_new wr _); obtain ⟨z0, z1, z2, z3, z4⟩ := ev_copy hOb; have HOB : Hid _ := hOb; have HOW : Hid _ := hown1; have HBW : Hid (Below w.heap.size w w1) := hg1.below (HB.out.alloc hbs _) (Nat.le_trans hbs (by simp)) (World.ownsRow.alloc HO.out _); have hszw : wr.heap.size < w1.heap.size := Nat.lt_of_lt_of_le (by simp) hg1.size; clear hown1 hg1 hOb q0 q1 q2 q3 q4)))
            refine (isWrite_any a e th c rg he _).mono ?_
            rintro r w2 ⟨rfl, hb2⟩
            rw [hw]
            have hOb : w2.heap[wr.heap.size]? = some (.cells #[.int .i64 a, .int .i64 e, .int .i64 th, .int .i64 c, .int .i64 rg] 110 (0, 0)) := (hb2.block _ hszw).trans HOB.out
            have HOW2 : Hid _ := ownsRow_kept HOW.out hb2
            have hB2 : Below w.heap.size w w2 := HBW.out.trans (hb2.mono HBW.out.size)
            clear z0 z1 z2 z3 z4
            have HB2 : Hid _ := hB2
            obtain ⟨y0, y1, y2, y3, y4⟩ := ev_copy hOb
            have hsz2 : wr.heap.size < w2.heap.size := (Array.getElem?_eq_some_iff.1 hOb).1
            clear hOb hb2 hB2
            have hlq : ((cdTo L t n).map q4I ++ [(⟨3, 0, 0, 0⟩ : Q4)]).length ≤ 300 := by simp; have := cdTo_len L t n; omega
            have HOW3 : Hid (Own4 w2 w.heap.size 97 _ ((cdTo L t n).map q4I ++ [(⟨3, 0, 0, 0⟩ : Q4)])) := HOW2.out
            have hPR2 : PRd w2.drew g L := (hP.kept HB2.out).kept (below_drewN (Below.refl _ _) 1)
            have HVA : Hid _ := hval w2.drew hPR2 hE hlt hl2
            have hB2s := HB2.out.size
            clear hval hPR2
            go_wp2
            go_region_law (first | (refine step_append_own rfl (.tmp 28) (.tmp 35) 95 rfl w.heap.size 97 i0 _ 4 32 Tryd.underlying95 hi0 hz0 hz1 hz2 rfl (by decide) _ _ _ (by simp [Act.eval]) (World.ownsRow.alloc HO4.out _) ⟨w3.heap.size, 0, none⟩ 1 1 (cells4 ⟨1, 0, (c : Int), (va : Int)⟩) (by simp [Act.eval]) rfl (by exact four_new w3 97 ⟨1, 0, (c : Int), (va : Int)⟩) (cells4_one _) (by unfold maxLen; omega) (by omega) (by simp; omega) ?_; intro v4 w4 hown4 hg4; have HO5 : Hid _ := hown4; have HB5 : Hid (Below w.heap.size w w4) := (HB4.out.alloc (by omega) _).grown hg4 (by simp; omega) (fun k hk => (World.ownsRow.lt HO4.out k hk).1); clear hown4 hg4) | (go_simp; go_wp2_with (go_at_call 85; refine Calls.mono HVA.out ?_; rintro r w3 ⟨rfl, hb3⟩; have x3 : w3.cell? ⟨wr.heap.size, 3, none⟩ = some (.int .i64 c) := (hb3.cell (p := ⟨wr.heap.size, 3, none⟩) hsz2).trans y3; have HO4 : Hid _ := ownsRow_kept (World.ownsRow.drew HOW3.out) hb3; have HB4 : Hid (Below w.heap.size w w3) := (below_drewN HB2.out 1).trans (hb3.mono hB2s); have hs3 : w.heap.size ≤ w3.heap.size := HB4.out.size; clear hb3)))
            all_goals go_wp2
            all_goals go_roundw
            all_goals first | exact ⟨n + 1, by omega, by go_num, by rw [HCD.out]; exact Own4.snoc HO5.out, HB5.out⟩ | (simp [intOf]; omega)
      · have hthI : ((th : Int) != (t : Int)) = true := by rw [bne_iff_ne]; omega
        have HCT : Hid (cdTo L t (n + 1) = cdTo L t n) := by show _ = _; rw [HCE.out, if_neg hth]; simp
        clear hth HCE
        go_wp2
        go_roundw
        case rel => exact ⟨n + 1, by omega, by go_num, by rw [HCT.out]; exact World.ownsRow.alloc HO.out _, HB.out.alloc hbs _⟩
        case measure => simp [intOf]; omega
    · go_wp2
      go_ret
      have : n = L.length := by omega
      subst this
      exact ⟨_, rfl, hown, hb⟩

end Go.Proofs.YtokfiflflcfidabDoor
