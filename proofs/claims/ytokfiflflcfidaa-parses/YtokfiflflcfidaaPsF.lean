import Derived.Test.YtokfiflflcfidaaRows
import Derived.Test.YtokfiflflcfidaaPsE
import Derived.WalkKit
import Derived.WalkSpells
import Derived.WalkLawsBesides
namespace Go.Proofs.Ytokfiflflcfidaa
open Go.RowKit

theorem psAt_ok {s : List UInt8} (h : psOk s = true) : psAt s = 0 := by
  unfold psOk at h
  simp only [Bool.and_eq_true, decide_eq_true_eq, beq_iff_eq] at h
  obtain ⟨⟨⟨⟨⟨⟨h1, h2⟩, h3⟩, h4⟩, h5⟩, h6⟩, h7⟩ := h
  unfold psAt
  rw [if_neg (by omega), if_neg (by rw [h2]; simp), if_neg (by omega), if_neg (by rw [h5]; simp), if_neg (by rw [h7]; simp; omega)]

theorem PsPost.of {s : List UInt8} {w w' : World} {nv : ByteArray} {cv wv : Value} (h1 : psOk s = true → nv = ⟨(psNm s).toArray⟩ ∧ Rd44 w.heap.size w'.heap.size w' cv (psC s) ∧ Rd4 w.heap.size w'.heap.size w' wv (psW s)) (h2 : psOk s = false → nv = ⟨#[]⟩ ∧ cv = .slice none 0 0 ∧ wv = .slice none 0 0) (h3 : Below w.heap.size w w') : PsPost s w w' nv cv wv := ⟨h1, h2, h3⟩

set_option maxRecDepth 100000 in
set_option maxHeartbeats 1600000 in
theorem parse_any (s : ByteArray) (hs : s.size ≤ 4096) (w : World) :
    Calls Try.prog 12 #[.string s] w fun r w' => ∃ nv cv wv, r = .returned (.tuple #[.agg #[.string nv, cv, wv], .int .i64 (if psOk s.data.toList = true then 0 else 10), .int .i64 (psAt s.data.toList : Nat)]) ∧ PsPost s.data.toList w w' nv cv wv := by
  have HPT : Hid _ := fun wx => parseTest_any s (by omega) wx
  have HA0 : Hid (psOk s.data.toList = true → psAt s.data.toList = 0) := psAt_ok
  have hsi : ¬ ((4096 : Int) < (s.size : Int)) := by omega
  obtain ⟨A, hA⟩ : ∃ n, psAt s.data.toList = n := ⟨_, rfl⟩
  obtain ⟨K, hK⟩ : ∃ n, psOk s.data.toList = n := ⟨_, rfl⟩
  rw [hA, hK] at HPT HA0
  rw [hA, hK]
  have HK : Hid _ := hK
  have hs0 : (w.alloc (.cells #[.string ⟨#[]⟩, .slice none 0 0, .slice none 0 0] 29)).heap.size = w.heap.size + 1 := by simp
  clear hA hK hs
  go_enter Try.func12, Try.ntmps12
  go_wp2_with fail
  refine Calls.mono (HPT.out _) ?_
  rintro r w1 ⟨nv, cv, wv, rfl, hp1, hp2, hb1⟩
  rw [hs0] at hb1 hp1
  have hs1 := hb1.size
  rw [hs0] at hs1
  cases K
  · obtain ⟨rfl, rfl, rfl⟩ := hp2 HK.out
    have HB2 : Hid (Below (w.heap.size + 1) (w.alloc (.cells #[.string ⟨#[]⟩, .slice none 0 0, .slice none 0 0] 29)) (w1.alloc (.cells #[.string ⟨#[]⟩, .slice none 0 0, .slice none 0 0] 29))) := hb1.alloc hs1 _
    obtain ⟨hF1, hF2, r0, r1, r2, f0, f1, f2⟩ := fin3P HB2.out (B := w.heap.size + 1) (Nat.le_refl _) (.string ⟨#[]⟩) (.slice none 0 0) (.slice none 0 0)
    have HF2 : Hid _ := hF2
    clear hF1 hF2 hb1 hp1 hp2
    go_wp2
    refine bodyPost_ret (v := .tuple #[.agg #[.string ⟨#[]⟩, .slice none 0 0, .slice none 0 0], .int .i64 10, .int .i64 A]) (by simp [results, Try.results12, go_sem, r0, r1, r2]) rfl ⟨_, _, _, rfl, PsPost.of (fun h => by rw [HK.out] at h; cases h) (fun _ => ⟨rfl, rfl, rfl⟩) HF2.out⟩
  · obtain ⟨rfl, hC, hW⟩ := hp1 HK.out
    obtain ⟨ca, cc, rfl, _⟩ := id hC
    obtain ⟨wa, wc, rfl, _⟩ := id hW
    obtain ⟨nb, hnb⟩ : ∃ x, (⟨(psNm s.data.toList).toArray⟩ : ByteArray) = x := ⟨_, rfl⟩
    have HNB : Hid _ := hnb
    rw [hnb]
    have hC0 : Rd44 (w.heap.size + 1) w1.heap.size w1 (.slice ca (psC s.data.toList).length cc) (psC s.data.toList) := hC
    have hW0 : Rd4 (w.heap.size + 1) w1.heap.size w1 (.slice wa (psW s.data.toList).length wc) (psW s.data.toList) := hW
    obtain ⟨cn, hcn⟩ : ∃ n, (psC s.data.toList).length = n := ⟨_, rfl⟩
    obtain ⟨wn, hwn⟩ : ∃ n, (psW s.data.toList).length = n := ⟨_, rfl⟩
    rw [hcn] at hC0 ⊢
    rw [hwn] at hW0 ⊢
    have HB2 : Hid (Below (w.heap.size + 1) (w.alloc (.cells #[.string ⟨#[]⟩, .slice none 0 0, .slice none 0 0] 29)) (w1.alloc (.cells #[.string nb, .slice ca cn cc, .slice wa wn wc] 29))) := hb1.alloc hs1 _
    have hbA : Below w1.heap.size w1 (w1.alloc (.cells #[.string nb, .slice ca cn cc, .slice wa wn wc] 29)) := (Below.refl _ _).alloc (Nat.le_refl _) _
    obtain ⟨hF1, hF2, r0, r1, r2, f0, f1, f2⟩ := fin3P HB2.out (B := w.heap.size + 1) (Nat.le_refl _) (.string nb) (.slice ca cn cc) (.slice wa wn wc)
    have HF2 : Hid _ := hF2
    have HC3 : Hid _ := (((hC0.span (Span.of_below hbA (Nat.le_refl _))).mono (Nat.le_refl _) hbA.size).span hF1).mono (Nat.le_succ _) hF1.size
    have HW3 : Hid _ := (((hW0.span (Span.of_below hbA (Nat.le_refl _))).mono (Nat.le_refl _) hbA.size).span hF1).mono (Nat.le_succ _) hF1.size
    have HA1 : Hid (A = 0) := HA0.out rfl
    clear hF1 hF2 hb1 hp1 hp2 hC hW hC0 hW0 hcn hwn hnb hbA
    go_wp2
    refine bodyPost_ret (v := .tuple #[.agg #[.string nb, .slice ca cn cc, .slice wa wn wc], .int .i64 0, .int .i64 0]) (by simp [results, Try.results12, go_sem, r0, r1, r2]) rfl ⟨_, _, _, by rw [HA1.out]; rfl, PsPost.of (fun _ => ⟨HNB.out.symm, HC3.out, HW3.out⟩) (fun h => by rw [HK.out] at h; cases h) HF2.out⟩

end Go.Proofs.Ytokfiflflcfidaa
