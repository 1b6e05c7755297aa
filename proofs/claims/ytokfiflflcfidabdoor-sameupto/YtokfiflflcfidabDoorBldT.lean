import Derived.Test.YtokfiflflcfidabDoorRows
import Derived.Test.YtokfiflflcfidabDoorBldS
import Derived.Test.YtokfiflflcfidabDoorRingM
import Derived.Test.YtokfiflflcfidabDoorLawB0
import Derived.WalkKit
import Derived.WalkSpells
import Derived.WalkLawsBesides
import Derived.RegionTactic
import Derived.BigRegion
import Derived.Deep.QuietTactic
import Derived.BigQuiet
namespace Go.Proofs.YtokfiflflcfidabDoor
open Go.RowKit

theorem Own44.below {w0 w w' : World} {base T : Nat} {v v' : Value} {c : List (List Q4)} (h : Own44 w base T v c) (hg : Grew w w' v v') (hb : Below base w0 w) (hB : base ≤ w.heap.size) : Below base w0 w' := by
  obtain ⟨cells, h1, _⟩ := h
  exact hg.below hb hB h1

/-- a test's code and claims as numbers -/
def codeQ (L : List Nat) : List (List Q4) := (codeOf L).map fun l => l.map q4I
def wantQ (L : List Nat) : List Q4 := (wantOf L).map q4C
def codeQTo (L : List Nat) (k : Nat) : List (List Q4) := (List.range k).map fun t => (cdTo L t L.length).map q4I
theorem codeQTo_succ (L : List Nat) (k : Nat) : codeQTo L (k + 1) = codeQTo L k ++ [(cdTo L k L.length).map q4I] := by simp [codeQTo, List.range_succ]
theorem codeQTo_all (L : List Nat) : codeQTo L (L.countP lT) = codeQ L := by simp [codeQTo, codeQ, codeOf]

/-- the answer's three cells at R, laid last -/
theorem fin3 {w wr : World} {T : Nat} {z0 z1 z2 : Value} {B : Nat} (hb : Below (w.heap.size + 1) (w.alloc (.cells #[z0, z1, z2] T)) wr) (hB : w.heap.size + 1 ≤ B) (a b c : Value) :
    Span B wr.heap.size wr (((wr.setCell ⟨w.heap.size, 0, none⟩ a).setCell ⟨w.heap.size, 1, none⟩ b).setCell ⟨w.heap.size, 2, none⟩ c) ∧ Below w.heap.size w (((wr.setCell ⟨w.heap.size, 0, none⟩ a).setCell ⟨w.heap.size, 1, none⟩ b).setCell ⟨w.heap.size, 2, none⟩ c) ∧
    wr.cell? ⟨w.heap.size, 0, none⟩ = some z0 ∧ wr.cell? ⟨w.heap.size, 1, none⟩ = some z1 ∧ wr.cell? ⟨w.heap.size, 2, none⟩ = some z2 ∧ wr.frozen? ⟨w.heap.size, 0, none⟩ = false ∧ wr.frozen? ⟨w.heap.size, 1, none⟩ = false ∧ wr.frozen? ⟨w.heap.size, 2, none⟩ = false := by
  have hrow : wr.heap[w.heap.size]? = some (.cells #[z0, z1, z2] T (0, 0)) := (hb.block _ (by omega)).trans (heap_alloc_new w _)
  have hb0 : Below w.heap.size w wr := ((Below.refl _ _).alloc (Nat.le_refl _) _).trans (hb.mono (by omega))
  refine ⟨(((Span.refl _ _ wr).set (Or.inl (by omega)) _).set (Or.inl (by omega)) _).set (Or.inl (by omega)) _, ((hb0.setCell (Nat.le_refl _) _).setCell (Nat.le_refl _) _).setCell (Nat.le_refl _) _, ?_, ?_, ?_, frozen_of_row _ _ _ _ _ hrow, frozen_of_row _ _ _ _ _ hrow, frozen_of_row _ _ _ _ _ hrow⟩
  · rw [cell_of_row _ _ 0 _ _ _ hrow]; rfl
  · rw [cell_of_row _ _ 1 _ _ _ hrow]; rfl
  · rw [cell_of_row _ _ 2 _ _ _ hrow]; rfl

set_option maxRecDepth 100000 in
set_option maxHeartbeats 1600000 in
theorem buildTest_any (b : List Nat) (g off cap : Nat) (w : World) (hA : Arr w g off b) (hE : ∀ x ∈ b, x < 14) (hl : 0 < b.length) (hl2 : b.length ≤ 64) (hR : Ring (ringOf b)) (hT : TabN w) :
    Calls Tryd.prog 39 #[.slice (some ⟨g, off, none⟩) b.length cap] w fun r w' => ∃ cv wv, r = .returned (.agg #[.string ⟨(tx b).toArray⟩, cv, wv]) ∧ Rd44 w.heap.size w'.heap.size w' cv (codeQ (ringOf b)) ∧ Rd4 w.heap.size w'.heap.size w' wv (wantQ (ringOf b)) ∧ Below w.heap.size w w' := by
  have hL := hR.toLay
  have hcT := ring_count lT b hl
  have hcC := ring_count lC b hl
  have hC0 : 0 < b.countP lC := by rw [← hcC]; exact hL.some
  have hb0 : Below w.heap.size w (w.alloc (.cells #[.string ⟨#[]⟩, .slice none 0 0, .slice none 0 0] 52)) := (Below.refl _ _).alloc (Nat.le_refl _) _
  have hTl : b.countP lT ≤ b.length := List.countP_le_length
  have hlr := ring_length b
  have HRL : Hid (ringOf b = turn b (outTo b b.length % b.length)) := rfl
  go_enter Tryd.func39, Tryd.ntmps39
  go_wp2_with fail
  refine (cycleEvents_any b g off cap _ (hA.kept hb0) hE hl hl2 hC0).mono ?_
  rintro r w1 ⟨v1, rfl, hown5, hb1⟩
  rw [← HRL.out, ← hlr] at hown5
  obtain ⟨g1, c1, hv1, hg1, hP⟩ := Own5.shape hown5 (by rw [hlr]; exact hl)
  subst hv1
  have hb01 : Below w.heap.size w w1 := hb0.trans (hb1.mono (by simp))
  have HT1 : Hid _ := hT.kept hb01
  have hA1 := hA.kept hb01
  have HB1 : Hid (Below (w.heap.size + 1) (w.alloc (.cells #[.string ⟨#[]⟩, .slice none 0 0, .slice none 0 0] 52)) w1) := hb1.mono (by simp)
  have hs1 : w.heap.size + 1 ≤ w1.heap.size := by have := hb1.size; simpa using this
  clear hown5 hb1 hb0 hg1
  go_wp2_with fail
  refine (countThreads_any b g off cap _ hA1 hE (by omega)).mono ?_
  rintro r w2 ⟨rfl, rfl⟩
  rw [← hcT]
  rw [← hcT] at hTl
  have htc := fun t w' hP' => threadCode_any (ringOf b) g1 c1 t w' hP' hR.small (by rw [hlr]; omega) (vB_eq (ringOf b) hL)
  have hwo := fun w' hP' => wantedOf_any (ringOf b) g1 c1 w' hP' hR.small (by rw [hlr]; omega) (vB_eq (ringOf b) hL) (claimed_eq (ringOf b) hR) (cw_wrs (ringOf b) hL)
  rw [hlr] at htc hwo
  have HTC : Hid _ := htc
  have HWO : Hid _ := hwo
  clear htc hwo
  go_wp2
  go_loopw [5, 6] (fun v i wr => ∃ k : Nat, k ≤ (ringOf b).countP lT ∧ i = .int .i64 k ∧ Own44 wr w2.heap.size 95 v (codeQTo (ringOf b) k) ∧ Below w2.heap.size w2 wr) (fun _ i _ => (ringOf b).countP lT - (intOf i).toNat)
  case atStart => exact ⟨0, Nat.zero_le _, rfl, Own44.nil _ _ _, Below.refl _ _⟩
  case round =>
    obtain ⟨k, hk, rfl, hown, hb⟩ := hrel
    have HB : Hid _ := hb
    have HO : Hid _ := hown
    have hbs := hb.size
    by_cases hlt : k < (ringOf b).countP lT
    · have HS : Hid _ := codeQTo_succ (ringOf b) k
      have hcl : (codeQTo (ringOf b) k).length ≤ 1000000000000 := by simp [codeQTo]; omega
      have hcall := HTC.out k wr (hP.kept hb)
      clear hb hown
      rw [hlr] at HS
      generalize (cdTo (ringOf b) k b.length).map q4I = row at *
      go_wp2_with fail
      refine Calls.mono hcall ?_
      rintro r w3 ⟨v3, rfl, hown3, hb3⟩
      obtain ⟨a3, c3, hv3⟩ := Own4.len hown3
      obtain ⟨n3, hn3⟩ : ∃ n3, n3 = row.length := ⟨_, rfl⟩
      rw [← hn3] at hv3
      clear hn3
      subst hv3
      have HO3 : Hid _ := hown3
      have HO44 : Hid _ := Own44.span HO.out (Span.of_below (lo := 0) hb3 (Nat.le_refl _)) (Nat.zero_le _) (Nat.le_refl _)
      have HB3 : Hid (Below w2.heap.size w2 w3) := HB.out.trans (hb3.mono hbs)
      have hs3 := hb3.size
      clear hcall hown3 hb3
      go_wp2_with (at_builtin; go_must (refine wpList_push44 rfl _ _ 49 rfl w2.heap.size 95 Tryd.underlying49 Tryd.infoPInss _ (codeQTo (ringOf b) k) row _ wr.heap.size 97 HO3.out hbs (fun b hb => (Own44.lt HO.out hb).2) (by rfl) (by rfl) HO44.out hcl (by omega) ?_); intro v4 w4 hown4 hg4; have HO4 : Hid _ := hown4; have HB4 : Hid (Below w2.heap.size w2 w4) := Own44.below HO44.out hg4 HB3.out (by omega); clear hown4 hg4)
      go_roundw
      case rel => exact ⟨k + 1, by omega, by go_num, by rw [HS.out]; exact HO4.out, HB4.out⟩
      case measure => simp [intOf]; omega
    · have hke : k = (ringOf b).countP lT := by omega
      subst hke
      rw [codeQTo_all] at HO
      have hAr := hA1.kept hb
      have hsp := spell_any b g off cap wr hAr hE hl (by omega) (TabN.kept HT1.out hb)
      obtain ⟨ua, un, hul⟩ := Own44.len HO.out
      obtain ⟨m3, hm3⟩ : ∃ m3, m3 = (codeQ (ringOf b)).length := ⟨_, rfl⟩
      rw [← hm3] at hul
      clear hm3
      subst hul
      have HSP : Hid _ := hsp
      clear hb hown hsp
      go_wp2_with (first | (go_at_call 52; refine (countCells_any b g off cap _ hAr hE (by omega)).mono ?_; rintro r w3 ⟨rfl, rfl⟩))
      refine Calls.mono HSP.out ?_
      rintro r w4 ⟨rfl, hb4⟩
      have hs4 := hb4.size
      have HB4 : Hid (Below w2.heap.size w2 w4) := HB.out.trans (hb4.mono hbs)
      have hcall := HWO.out w4 (hP.kept HB4.out)
      rw [hcC] at hcall
      have HO44 : Hid _ := Own44.span HO.out (Span.of_below (lo := 0) hb4 (Nat.le_refl _)) (Nat.zero_le _) (Nat.le_refl _)
      clear hb4 HSP
      go_wp2_with fail
      refine Calls.mono hcall ?_
      rintro r w5 ⟨v5, rfl, hown5, hb5⟩
      obtain ⟨a5, c5, hv5⟩ := Own4.len hown5
      obtain ⟨n5, hn5⟩ : ∃ n5, n5 = ((wantOf (ringOf b)).map q4C).length := ⟨_, rfl⟩
      rw [← hn5] at hv5
      clear hn5
      subst hv5
      have HO5 : Hid _ := hown5
      have hs5 := hb5.size
      have HB5 : Hid (Below w2.heap.size w2 w5) := HB4.out.trans (hb5.mono (by omega))
      have HO55 : Hid _ := Own44.span HO44.out (Span.of_below (lo := 0) hb5 (Nat.le_refl _)) (Nat.zero_le _) (Nat.le_refl _)
      have hBR : Below (w.heap.size + 1) (w.alloc (.cells #[.string ⟨#[]⟩, .slice none 0 0, .slice none 0 0] 52)) w5 := HB1.out.trans (HB5.out.mono hs1)
      have hfin := fin3 hBR hs1 (.string ⟨(tx b).toArray⟩) (.slice ua m3 un) (.slice a5 n5 c5)
      obtain ⟨hF1, hF2, r0, r1, r2, f0, f1, f2⟩ := hfin
      have HF1 : Hid _ := hF1
      have HF2 : Hid _ := hF2
      clear hcall hown5 hb5 hF1 hF2 hBR
      go_wp2
      refine bodyPost_ret (v := .agg #[.string ⟨(tx b).toArray⟩, .slice ua m3 un, .slice a5 n5 c5]) (by simp [results, Tryd.results39, go_sem, r0, r1, r2]) rfl ⟨_, _, rfl, ?_, ?_, ?_⟩
      · exact Rd44.mono (Rd44.span (Own44.rd HO55.out) HF1.out) (by omega) HF1.out.size
      · exact Rd4.mono (Rd4.span (Own4.rd HO5.out (Nat.le_refl _)) (HF1.out.mono (by omega) (Nat.le_refl _))) (by omega) HF1.out.size
      · exact HF2.out

end Go.Proofs.YtokfiflflcfidabDoor
