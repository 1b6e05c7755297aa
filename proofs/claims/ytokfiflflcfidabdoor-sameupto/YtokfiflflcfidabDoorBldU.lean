import Derived.Test.YtokfiflflcfidabDoorRows
import Derived.Test.YtokfiflflcfidabDoorBldT
import Derived.WalkKit
import Derived.WalkSpells
import Derived.WalkLawsBesides
namespace Go.Proofs.YtokfiflflcfidabDoor
open Go.RowKit

/-- the base of a text, and its edges in a ring -/
def baseL (s : List UInt8) : List Nat := leastOf (edgesOf s)
def ringL (s : List UInt8) : List Nat := ringOf (baseL s)
theorem rd_ring {s : List UInt8} (h : (rd s).1 = 0) : Ring (ringL s) ∧ lT ((ringL s)[(ringL s).length - 1]?.getD 0) = true ∧ (ringL s).length ≤ 16 ∧ (baseL s).length = (edgesOf s).length ∧ (ringL s).length = (edgesOf s).length ∧ (∀ x ∈ baseL s, x < 14) ∧ 0 < (edgesOf s).length := by
  have hz := rd_zero h
  have hlen := edgesOf_length hz.2.1
  have hEl := edgesOf_lt hz.2.1
  have hll : (leastOf (edgesOf s)).length = (edgesOf s).length := leastTo_length _ _
  have hr := ring_ring (edgesOf s) hEl hlen.1 (by rw [← chk_eq _ hlen.1]; exact hz.2.2.2)
  have hrl := ring_length (leastOf (edgesOf s))
  refine ⟨hr.1, hr.2, ?_, hll, ?_, fun x hx => hEl x (mem_leastTo _ _ x hx), hlen.1⟩
  · show (ringOf (leastOf (edgesOf s))).length ≤ 16
    have := hz.2.2.1
    omega
  · show (ringOf (leastOf (edgesOf s))).length = _
    omega

set_option maxRecDepth 100000 in
set_option maxHeartbeats 800000 in
theorem build_any (s : ByteArray) (hs : s.size ≤ 9223372036854775807) (w : World) (hT : TabN w) :
    Calls Tryd.prog 20 #[.string s] w fun r w' => ∃ nv cv wv, r = .returned (.tuple #[.agg #[.string nv, cv, wv], .int .i64 ((rd s.data.toList).1 : Nat), .int .i64 ((rd s.data.toList).2 : Nat)]) ∧
      ((rd s.data.toList).1 = 0 → nv = ⟨(tx (baseL s.data.toList)).toArray⟩ ∧ Rd44 w.heap.size w'.heap.size w' cv (codeQ (ringL s.data.toList)) ∧ Rd4 w.heap.size w'.heap.size w' wv (wantQ (ringL s.data.toList))) ∧
      ((rd s.data.toList).1 ≠ 0 → nv = ⟨#[]⟩ ∧ cv = .slice none 0 0 ∧ wv = .slice none 0 0) ∧ Below w.heap.size w w' := by
  have hb0 : Below w.heap.size w (w.alloc (.cells #[.string ⟨#[]⟩, .slice none 0 0, .slice none 0 0] 52)) := (Below.refl _ _).alloc (Nat.le_refl _) _
  go_enter Tryd.func20, Tryd.ntmps20
  go_wp2_with fail
  refine (readCycle_any s hs _ (hT.kept hb0)).mono ?_
  rintro r w1 ⟨v, rfl, hyes, hno, hb1⟩
  have hb01 : Below w.heap.size w w1 := hb0.trans (hb1.mono (by simp))
  have hB1 : Below (w.heap.size + 1) (w.alloc (.cells #[.string ⟨#[]⟩, .slice none 0 0, .slice none 0 0] 52)) w1 := hb1.mono (by simp)
  have hs1 : w.heap.size + 1 ≤ w1.heap.size := by have := hb1.size; simpa using this
  by_cases h0 : (rd s.data.toList).1 = 0
  · obtain ⟨hown, hE⟩ := hyes h0
    have hrr := rd_ring h0
    have HR : Hid _ := hrr
    have HZ : Hid _ := rd_zero h0
    have hl := hrr.2.2.2.2.2.2
    have hl2 : (edgesOf s.data.toList).length ≤ 16 := by have h1 := hrr.2.2.1; have h2 := hrr.2.2.2.2.1; omega
    obtain ⟨g1, c1, hv1, hg1, hG1⟩ := hown.shape hl
    subst hv1
    have H0 : Hid _ := h0
    rw [h0]
    clear hyes hno hE hown h0 hrr
    go_wp2_with fail
    refine (leastRotation_any (edgesOf s.data.toList) g1 0 c1 _ hG1 hl (by omega)).mono ?_
    rintro r w2 ⟨v2, rfl, hown2, hb2⟩
    have hll : (leastOf (edgesOf s.data.toList)).length = (edgesOf s.data.toList).length := leastTo_length _ _
    obtain ⟨g2, c2, hv2, hg2, hG2⟩ := hown2.shape (by rw [hll]; exact hl)
    have hbb : Below w.heap.size w w2 := hb01.trans (hb2.mono hb01.size)
    have hbt := buildTest_any (leastOf (edgesOf s.data.toList)) g2 0 c2 w2 hG2 HR.out.2.2.2.2.2.1 (by rw [hll]; exact hl) (by rw [hll]; omega) HR.out.1 (hT.kept hbb)
    rw [hll] at hv2 hbt
    subst hv2
    have HB2 : Hid _ := hb2
    have HBT : Hid _ := hbt
    have hs2 := hb2.size
    clear hll hown2 hb2 hbt
    go_wp2_with fail
    refine Calls.mono HBT.out ?_
    rintro r w3 ⟨cv, wv, rfl, hC, hW, hb3⟩
    have hs3 := hb3.size
    have hBR : Below (w.heap.size + 1) (w.alloc (.cells #[.string ⟨#[]⟩, .slice none 0 0, .slice none 0 0] 52)) w3 := hB1.trans ((HB2.out.mono hs1).trans (hb3.mono (by omega)))
    obtain ⟨ca, cc, hcv, hC'⟩ := hC
    obtain ⟨n3, hn3⟩ : ∃ n3, n3 = (codeQ (ringOf (leastOf (edgesOf s.data.toList)))).length := ⟨_, rfl⟩
    rw [← hn3] at hcv
    obtain ⟨wa, wc, hwv, hW'⟩ := hW
    obtain ⟨n4, hn4⟩ : ∃ n4, n4 = (wantQ (ringOf (leastOf (edgesOf s.data.toList)))).length := ⟨_, rfl⟩
    rw [← hn4] at hwv
    subst hcv
    subst hwv
    have HC : Hid (Rd44 w2.heap.size w3.heap.size w3 (.slice ca n3 cc) (codeQ (ringL s.data.toList))) := ⟨ca, cc, by rw [hn3]; rfl, hC'⟩
    have HW : Hid (Rd4 w2.heap.size w3.heap.size w3 (.slice wa n4 wc) (wantQ (ringL s.data.toList))) := ⟨wa, wc, by rw [hn4]; rfl, hW'⟩
    obtain ⟨hF1, hF2, r0, r1, r2, f0, f1, f2⟩ := fin3 hBR (B := w2.heap.size) (by omega) (.string ⟨(tx (leastOf (edgesOf s.data.toList))).toArray⟩) (.slice ca n3 cc) (.slice wa n4 wc)
    have HF1 : Hid _ := hF1
    have HF2 : Hid _ := hF2
    clear hC' hW' hn3 hn4 hb3 hF1 hF2 hBR
    go_wp2
    refine bodyPost_ret (v := .tuple #[.agg #[.string ⟨(tx (leastOf (edgesOf s.data.toList))).toArray⟩, .slice ca n3 cc, .slice wa n4 wc], .int .i64 0, .int .i64 0]) (by simp [results, Tryd.results20, go_sem, r0, r1, r2]) rfl ⟨⟨(tx (leastOf (edgesOf s.data.toList))).toArray⟩, .slice ca n3 cc, .slice wa n4 wc, ?_, fun _ => ⟨rfl, ?_, ?_⟩, fun h => absurd H0.out h, ?_⟩
    · rw [H0.out, HZ.out.1]; rfl
    · exact Rd44.mono (Rd44.span HC.out HF1.out) (by omega) HF1.out.size
    · exact Rd4.mono (Rd4.span HW.out HF1.out) (by omega) HF1.out.size
    · exact HF2.out
  · have hv := hno h0
    subst hv
    have h0i : (((rd s.data.toList).1 : Int) == 0) = false := by rw [beq_eq_false_iff_ne]; omega
    have H0 : Hid _ := h0
    obtain ⟨hF1, hF2, r0, r1, r2, f0, f1, f2⟩ := fin3 hB1 (B := w1.heap.size) hs1 (.string ⟨#[]⟩) (.slice none 0 0) (.slice none 0 0)
    have HF2 : Hid _ := hF2
    clear hyes hno h0 hF1 hF2
    go_wp2
    refine bodyPost_ret (v := .tuple #[.agg #[.string ⟨#[]⟩, .slice none 0 0, .slice none 0 0], .int .i64 ((rd s.data.toList).1 : Nat), .int .i64 ((rd s.data.toList).2 : Nat)]) (by simp [results, Tryd.results20, go_sem, r0, r1, r2]) rfl ⟨_, _, _, rfl, fun h => absurd h H0.out, fun _ => ⟨rfl, rfl, rfl⟩, HF2.out⟩

end Go.Proofs.YtokfiflflcfidabDoor
