import Derived.Test.YtokfiflflcfidabRows
import Derived.Test.YtokfiflflcfidabAlB
import Derived.Test.YtokfiflflcfidabPPy
import Derived.Test.YtokfiflflcfidabPPz
import Derived.Test.YtokfiflflcfidabMadW
import Derived.Test.YtokfiflflcfidabSndT
import Derived.WalkKit
import Derived.WalkSpells
import Derived.WalkLawsBesides
namespace Go.Proofs.Ytokfiflflcfidab
open Go.RowKit

theorem numA_any (e : Int) (w : World) : Calls Try.prog 9 #[.int .i64 e] w fun r w' => r = .returned (.int .i64 e) ∧ w' = w := by
  go_enter Try.func9, Try.ntmps9
  go_wp2
  go_ret
  exact ⟨rfl, rfl⟩
theorem rep_snoc (k : Nat) : List.replicate k (Value.bool false) ++ [.bool false] = List.replicate (k + 1) (.bool false) := List.replicate_succ'.symm

set_option maxRecDepth 100000 in
set_option maxHeartbeats 3200000 in
/-- Alike -/
theorem alike_any (nv : ByteArray) (cv wv ov : Value) (code : List (List Q4)) (want : List Q4) (order : List Int) (w : World) (hC : Rd44 0 w.heap.size w cv code) (hW : Rd4 0 w.heap.size w wv want) (hnv : nv.size ≤ 9223372036854775807)
    (hSc : ScrRd w ov order) (hol : order.length ≤ 9223372036854775807)
    (hcap : ∀ b off cap, cv = .slice (some ⟨b, off, none⟩) code.length cap → ∀ k, k < code.length → ∀ a n c, w.cell? ⟨b, off + k, none⟩ = some (.slice a n c) → n ≤ c) :
    Calls Try.prog 4 #[.agg #[.string nv, cv, wv], ov] w fun r w' => r = .returned (.bool true) ∧ Below w.heap.size w w' := by
  have HC : Hid (Rd44 0 w.heap.size w cv code) := hC
  have HW : Hid (Rd4 0 w.heap.size w wv want) := hW
  obtain ⟨ca, cc, rfl, hCC⟩ := id hC
  obtain ⟨wa, wc, rfl, _⟩ := id hW
  have HSC : Hid (ScrRd w ov order) := hSc
  obtain ⟨sa, sc, rfl, _⟩ := id hSc
  have hb0 : Below w.heap.size w (w.alloc (.cells #[.string nv, .slice ca code.length cc, .slice wa want.length wc] 25)) := (Below.refl _ _).alloc (Nat.le_refl _) _
  have HB0 : Hid _ := hb0
  have HSO : Hid _ := sound_any nv (.slice ca code.length cc) (.slice wa want.length wc) code want 0 w.heap.size _ (Rd44.span HC.out (Span.of_below hb0 (Nat.le_refl _))) (Rd4.span HW.out (Span.of_below hb0 (Nat.le_refl _))) hb0.size hnv
  have HCAP : Hid (∀ w1, Below w.heap.size w w1 → ∀ b off cap, Value.slice ca code.length cc = .slice (some ⟨b, off, none⟩) code.length cap → ∀ k, k < code.length → ∀ a n c, w1.cell? ⟨b, off + k, none⟩ = some (.slice a n c) → n ≤ c) := fun w1 hb b off cap he k hk a n c hc => by
    refine hcap b off cap he k hk a n c ?_
    injection he with q1 _ _
    obtain ⟨b', o', _, e, _, hlt, _⟩ := hCC k hk
    rw [q1] at e
    simp only [Option.some.injEq, Addr.mk.injEq, and_true] at e
    rw [e.1] at hc ⊢
    rw [← hb.cell (p := ⟨b', off + k, none⟩) hlt]
    exact hc
  obtain ⟨cn, hcn⟩ : ∃ n, code.length = n := ⟨_, rfl⟩
  obtain ⟨wn, hwn⟩ : ∃ n, want.length = n := ⟨_, rfl⟩
  obtain ⟨on, hon⟩ : ∃ n, order.length = n := ⟨_, rfl⟩
  have HCN : Hid _ := hcn
  have HON0 : Hid _ := hon
  have HOL0 : Hid _ := hol
  rw [hcn] at HC HB0 HSO ⊢
  rw [hwn] at HW HB0 HSO ⊢
  rw [hon] at HSC hol ⊢
  clear hC hW hSc hb0 hcn hwn hon hcap hCC
  cases hS : sndT nv.data.toList code want
  · rw [hS] at HSO
    clear hS
    go_enter Try.func4, Try.ntmps4
    go_wp2_with fail
    refine Calls.mono HSO.out ?_
    rintro r w1 ⟨rfl, hb1⟩
    have HB1 : Hid (Below w.heap.size w w1) := HB0.out.trans (hb1.mono HB0.out.size)
    clear hb1
    go_wp2
    go_ret
    exact ⟨rfl, HB1.out⟩
  · rw [hS] at HSO
    have HS1 : Hid _ := one_snd hS
    have HPT : Hid _ := sndT_parts hS
    have HNE : Hid (∀ k, k < code.length → 0 < (code[k]?.getD []).length) := fun k hk => (sndRow_parts (HPT.out.2.2.2.1 _ (getD_mem [] hk))).1
    have HSI : Hid (∀ k, k < code.length → sndI ((code[k]?.getD [])[0]?.getD q0) = true) := fun k hk => by
      have h := HPT.out.2.2.2.1 _ (getD_mem [] hk)
      unfold sndRow at h
      rw [Bool.and_eq_true, List.all_eq_true] at h
      exact h.2 _ (getD_mem q0 (HNE.out k hk))
    have HL1 : Hid ((oneQ code).length = cn) := by show _ = _; rw [← HCN.out]; simp [oneQ]
    have hcn16 : cn ≤ 16 := by have := HPT.out.2.1; rw [HCN.out] at this; exact this
    have hcn0 : 0 < cn := by have := HPT.out.1; rw [HCN.out] at this; exact this
    clear hS
    go_enter Try.func4, Try.ntmps4
    go_wp2_with fail
    refine Calls.mono HSO.out ?_
    rintro r w1 ⟨rfl, hb1⟩
    have HB1 : Hid (Below w.heap.size w w1) := HB0.out.trans (hb1.mono HB0.out.size)
    have u0 : w1.cell? ⟨w.heap.size, 0, none⟩ = some (.string nv) := (hb1.cell (p := ⟨w.heap.size, 0, none⟩) (by simp)).trans (by simp)
    have u1 : w1.cell? ⟨w.heap.size, 1, none⟩ = some (.slice ca cn cc) := (hb1.cell (p := ⟨w.heap.size, 1, none⟩) (by simp)).trans (by simp)
    have u2 : w1.cell? ⟨w.heap.size, 2, none⟩ = some (.slice wa wn wc) := (hb1.cell (p := ⟨w.heap.size, 2, none⟩) (by simp)).trans (by simp)
    have hw1 : w.heap.size < w1.heap.size := by have := hb1.size; simp at this; omega
    clear hb1 HSO HB0
    have HAL : Hid _ := alone_any nv (.slice ca cn cc) (.slice wa wn wc) code want w.heap.size w1 (Rd44.span HC.out (Span.of_below HB1.out (Nat.le_refl _))) (Rd4.span HW.out (Span.of_below HB1.out (Nat.le_refl _))) HB1.out.size (by rw [HCN.out]; exact hcn16) HNE.out (by have := HCAP.out w1 HB1.out; rw [HCN.out] at this ⊢; exact this)
    go_wp2_with fail
    refine Calls.mono HAL.out ?_
    rintro r w2 ⟨cv2, rfl, hC2, hb2⟩
    have HB2 : Hid (Below w.heap.size w w2) := HB1.out.trans (hb2.mono HB1.out.size)
    obtain ⟨ua, uc, hcv2, _⟩ := id hC2
    rw [HL1.out] at hcv2
    subst hcv2
    have HC2 : Hid (Rd44 0 w2.heap.size w2 (.slice ua cn uc) (oneQ code)) := hC2
    have hba2 : Below w2.heap.size w2 (w2.alloc (.cells #[.string nv, .slice ua cn uc, .slice none 0 0] 25)) := (Below.refl _ _).alloc (Nat.le_refl _) _
    have HBA2 : Hid _ := hba2
    have HROWU : Hid ((w2.alloc (.cells #[.string nv, .slice ua cn uc, .slice none 0 0] 25)).heap[w2.heap.size]? = some (.cells #[.string nv, .slice ua cn uc, .slice none 0 0] 25 (0, 0))) := heap_alloc_new w2 _
    have HM : Hid _ := made_any nv (.slice ua cn uc) (.slice none 0 0) (oneQ code) [] 0 w2.heap.size _ (Rd44.span hC2 (Span.of_below hba2 (Nat.le_refl _))) ⟨none, 0, rfl, fun i hi => absurd hi (by simp)⟩ hba2.size (by rw [HL1.out]; omega) (fun k => by
      have hr := (sndT_parts HS1.out).2.2.2.1
      by_cases hk : k < (oneQ code).length
      · have := (sndRow_parts (hr _ (getD_mem [] hk))).2.1
        omega
      · rw [List.getElem?_eq_none (by omega)]; simp) (by simp)
    clear hC2 hb2 hba2 u0 u1 u2 HAL
    go_wp2_with fail
    refine Calls.mono HM.out ?_
    rintro r w3 ⟨cv3, wv3, rfl, hC3, hW3, hb3⟩
    obtain ⟨va, vc, hcv3, _⟩ := id hC3
    obtain ⟨xa, xc, hwv3, _⟩ := id hW3
    rw [HL1.out] at hcv3
    have hwv4 : wv3 = .slice xa 0 xc := hwv3
    clear hwv3
    subst hcv3 hwv4
    have hba3 : Below w3.heap.size w3 (w3.alloc (.cells #[.string nv, .slice va cn vc, .slice xa 0 xc] 31)) := (Below.refl _ _).alloc (Nat.le_refl _) _
    have hs3 : (w3.alloc (.cells #[.string nv, .slice va cn vc, .slice xa 0 xc] 31)).heap.size = w3.heap.size + 1 := by simp
    have hk2 : Below w2.heap.size w2 w3 := HBA2.out.trans (hb3.mono HBA2.out.size)
    have hsz2 : w2.heap.size + 1 ≤ w3.heap.size := by have := hb3.size; simp at this; exact this
    have HAW : Hid (AW 25 31 (w3.heap.size + 1) w (w3.alloc (.cells #[.string nv, .slice va cn vc, .slice xa 0 xc] 31)) nv w2.heap.size (.slice ua cn uc) w3.heap.size (.slice va cn vc) (.slice xa 0 xc) (oneQ code)) := by
      have hB3 : Below w.heap.size w w3 := HB2.out.trans (hk2.mono HB2.out.size)
      have hz2 := HB2.out.size
      refine ⟨hB3.trans (hba3.mono hB3.size), by rw [hs3]; exact Nat.le_refl _, by omega, by omega, ?_, by omega, heap_alloc_new w3 _, ?_, ?_, ?_⟩
      · rw [hba3.block _ (show w2.heap.size < w3.heap.size by omega), hb3.block _ (by simp)]
        exact HROWU.out
      · exact (Rd44.span HC2.out (Span.of_below (hk2.trans (hba3.mono (by omega))) (Nat.le_refl _))).mono (Nat.le_refl _) (by omega)
      · exact (Rd44.span hC3 (Span.of_below hba3 (Nat.le_refl _))).mono (Nat.zero_le _) (by omega)
      · exact (Rd4.span hW3 (Span.of_below hba3 (Nat.le_refl _))).mono (Nat.zero_le _) (by omega)
    clear hC3 hW3 hb3 hba3 hk2 HM HBA2 HROWU HC2 HB2
    go_wp2
    generalize hwA : w3.alloc (.cells #[.string nv, .slice va cn vc, .slice xa 0 xc] 31) = wA at *
    clear hwA
    have HS3 : Hid _ := hs3
    go_loopw [9, 10] (fun v i wr => ∃ k : Nat, k ≤ cn ∧ i = .int .i64 k ∧ wr.ownsRow (w3.heap.size + 1) 4 1 v (List.replicate k (Value.bool false)).length (List.replicate k (Value.bool false)) ∧ Below (w3.heap.size + 1) wA wr) (fun _ i _ => cn - (intOf i).toNat)
    case atStart => exact ⟨0, Nat.zero_le _, rfl, World.ownsRow_nil _ _ _ _, Below.refl _ _⟩
    case round =>
      obtain ⟨k, hk, rfl, hO, hb⟩ := hrel
      have HO : Hid (wr.ownsRow (w3.heap.size + 1) 4 1 _ (List.replicate k (Value.bool false)).length (List.replicate k (Value.bool false))) := hO
      have HB : Hid (Below (w3.heap.size + 1) wA wr) := hb
      have HAWr : Hid _ := HAW.out.keptB hb
      have HSZ : Hid (w3.heap.size + 1 ≤ wr.heap.size) := HAWr.out.hB
      obtain ⟨c1, cz⟩ := HAWr.out.u1
      clear hO hb
      by_cases hlt : k < cn
      · go_wp2_with (at_builtin; refine wpList_push rfl _ _ 41 rfl (w3.heap.size + 1) (w3.heap.size + 1) wA 4 (.bool false) 1 Try.underlying41 Try.infoBoolA rfl _ _ (.bool false) rfl (by rfl) (by rfl) HO.out (by rw [List.length_replicate]; omega) (by rw [List.length_replicate]; unfold maxLen; omega) HB.out (Nat.le_refl _) HSZ.out ?_; intro v2 w5 h2 hb2 _; have HO2 : Hid _ := h2; have HB2 : Hid (Below (w3.heap.size + 1) wA w5) := hb2; clear h2 hb2 HO)
        go_roundw
        case rel => exact ⟨k + 1, by omega, by go_num, by rw [← rep_snoc]; exact HO2.out, HB2.out⟩
        case measure => simp [intOf]; omega
      · have hke : k = cn := by omega
        have HKE : Hid _ := hke
        have hlr : (List.replicate k (Value.bool false)).length = cn := by rw [List.length_replicate, HKE.out]
        rw [hlr, HKE.out] at HO
        obtain ⟨gd, gcap, hgv, hg1, hg2, hgD⟩ := drd_of HO.out hcn0
        subst hgv
        have HDR : Hid (DRd wr gd 4 (List.replicate cn false)) := hgD
        have HAI : Hid (AInv (codeR (oneQ code)) (List.replicate cn false) [] []) := by
          have := AInv.init (c := codeR (oneQ code))
          rw [one_len, HCN.out] at this
          exact this
        clear hke hlr hgD HO HB HSZ
        generalize hwB : wr = wB at *
        clear hwB
        go_wp2
        go_loopw [7, 8, 11] (fun nw lt i wr => ∃ (q : Nat) (D : List Bool) (now later : List Int), q ≤ on ∧ i = .int .i64 q ∧ AInv (codeR (oneQ code)) D now later ∧ Below (w3.heap.size + 1) wB wr ∧ wB.heap.size ≤ wr.heap.size ∧ DRd wr gd 4 D ∧ OwnZ wr wB.heap.size 3 nw now ∧ OwnZ wr wB.heap.size 3 lt later ∧ Dj nw lt) (fun _ _ i _ => on - (intOf i).toNat)
        case atStart => exact ⟨0, _, [], [], Nat.zero_le _, rfl, HAI.out, Below.refl _ _, Nat.le_refl _, HDR.out, OwnZ.nil _ _ _, OwnZ.nil _ _ _, fun g h => by cases h⟩
        case round =>
          clear HAI HDR c1 cz
          obtain ⟨q, D, now, later, hq, rfl, hAI, hb, hsz, hDR, hON, hOL, hDJ⟩ := hrel
          have HAI : Hid (AInv (codeR (oneQ code)) D now later) := hAI
          have HB : Hid (Below (w3.heap.size + 1) wB wr) := hb
          have HSZ : Hid (wB.heap.size ≤ wr.heap.size) := hsz
          have HDR : Hid (DRd wr gd 4 D) := hDR
          have HON : Hid (OwnZ wr wB.heap.size 3 _ now) := hON
          have HOL : Hid (OwnZ wr wB.heap.size 3 _ later) := hOL
          have HDJ : Hid (Dj _ _) := hDJ
          have HAW2 : Hid _ := HAWr.out.keptB hb
          have HDL : Hid (D.length = cn) := by show _ = _; rw [hAI.1, one_len, HCN.out]
          obtain ⟨c1, cz⟩ := HAW2.out.u1
          clear hAI hb hDR hON hOL hDJ
          by_cases hlt : q < on
          · have hqi : (q : Int) < (on : Int) := by omega
            have HPK : Hid _ := pickA_any order (.slice sa on sc) q cn wr (ScrRd.kept HSC.out HAW2.out.below) ⟨hcn0, by omega⟩ (by rw [HON0.out]; exact hlt) HOL0.out
            obtain ⟨k, hkk⟩ : ∃ k, pickN (order[q]?.getD 0) cn = k := ⟨_, rfl⟩
            have hkc : k < cn := by rw [← hkk]; exact pickN_lt _ hcn0
            rw [hkk] at HPK
            have hdk := HDR.out.2 k (by rw [HDL.out]; exact hkc)
            have hgl : gd < wr.heap.size := by omega
            clear hkk
            cases hdv : D[k]?.getD false
            · rw [hdv] at hdk
              obtain ⟨x, hx⟩ : ∃ x, cntD D k = x := ⟨_, rfl⟩
              have hx16 : x ≤ 16 := by have := cntD_le D k; omega
              have HST : Hid _ := HAI.out.step (one_oneC HNE.out) (by rw [one_len, HCN.out]; exact hcn16) (k := k) (by rw [one_len, HCN.out]; exact hkc) hdv
              rw [hx] at HST
              have HX : Hid _ := hx
              have HLEN : Hid _ := HAI.out.len
              have HLN : Hid (now.length ≤ 1000000) := by show _ ≤ _; have := HLEN.out; rw [one_len, HCN.out] at this; omega
              have HLL : Hid (later.length ≤ 1000000) := by show _ ≤ _; have := HLEN.out; rw [one_len, HCN.out] at this; omega
              have HLL2 : Hid ((later ++ [(x : Int)]).length ≤ 1000000) := by show _ ≤ _; have := HLEN.out; rw [one_len, HCN.out] at this; rw [List.length_append, List.length_singleton]; omega
              obtain ⟨ra, rcp, hev, hrows⟩ := id HAW2.out.CU
              obtain ⟨cb, co, vk, hra, _, hcb, hck, hrow⟩ := hrows k (by rw [HL1.out]; exact hkc)
              injection hev with q1 q2 q3
              have hua : ua = some ⟨cb, co, none⟩ := q1.trans hra
              clear q1 q2 q3 hra hrows
              rw [one_row (by rw [HCN.out]; exact hkc) (HNE.out k (by rw [HCN.out]; exact hkc))] at hrow
              have HOP : Hid _ := one_op (code := code) (k := k) (by rw [HCN.out]; exact hkc) (HNE.out k (by rw [HCN.out]; exact hkc)) (HSI.out k (by rw [HCN.out]; exact hkc))
              obtain ⟨rwa, rwc, hvk, hat⟩ := hrow
              obtain ⟨rb, ro, hrw, _, hrb, hat⟩ := hat 0 (by simp)
              have hf0 := hat.f0
              simp only [Nat.zero_mul, Nat.add_zero, List.getElem?_cons_zero, Option.getD_some] at hf0
              generalize ((code[k]?.getD [])[0]?.getD q0).a = av at *
              subst hrw
              have hvk2 : vk = .slice (some ⟨rb, ro, none⟩) 1 rwc := hvk
              subst hvk2
              clear hvk hat
              subst hua
              have HFAC : Hid (∀ w', Below wB.heap.size wr w' → w'.cell? ⟨w2.heap.size, 1, none⟩ = some (.slice (some ⟨cb, co, none⟩) cn uc) ∧ w'.cell? ⟨cb, co + k, none⟩ = some (.slice (some ⟨rb, ro, none⟩) 1 rwc) ∧ w'.cell? ⟨rb, ro, none⟩ = some (.int .i64 av) ∧ w2.heap.size < w'.heap.size ∧ cb < w'.heap.size ∧ rb < w'.heap.size ∧ w'.cell? ⟨gd, k, none⟩ = some (.bool false) ∧ w'.frozen? ⟨gd, k, none⟩ = false ∧ gd < w'.heap.size) := fun w' hb' => by
                have hs' := hb'.size
                have hsB := HSZ.out
                refine ⟨(hb'.cell (p := ⟨w2.heap.size, 1, none⟩) (show w2.heap.size < wB.heap.size by omega)).trans c1, (hb'.cell (p := ⟨cb, co + k, none⟩) (show cb < wB.heap.size by omega)).trans hck, (hb'.cell (p := ⟨rb, ro, none⟩) (show rb < wB.heap.size by omega)).trans hf0, by omega, by omega, by omega, (hb'.cell (p := ⟨gd, k, none⟩) hg2).trans hdk, (DRd.kept HDR.out hb' hg2).1.free k, by omega⟩
              clear hck hf0 hrb hcb
              go_wp2_with (go_at_call 13; refine Calls.mono HPK.out ?_; rintro r wr ⟨rfl, rfl⟩)
              go_loopw [13, 14] (fun n j wx => ∃ m : Nat, m ≤ k ∧ j = .int .i64 m ∧ n = .int .i64 (cntD D m : Nat) ∧ wr = wx) (fun _ j _ => k - (intOf j).toNat)
              case atStart => exact ⟨0, Nat.zero_le _, rfl, rfl, rfl⟩
              case round =>
                obtain ⟨m, hm, rfl, rfl, rfl⟩ := hrel
                by_cases hmk : m < k
                · have hdm := HDR.out.2 m (by rw [HDL.out]; omega)
                  have HCS : Hid (cntD D (m + 1) = cntD D m + if D[m]?.getD false then 0 else 1) := rfl
                  have hy16 := cntD_le D m
                  obtain ⟨y, hy⟩ : ∃ y, cntD D m = y := ⟨_, rfl⟩
                  rw [hy] at HCS hy16 ⊢
                  clear hy
                  cases hdmv : D[m]?.getD false
                  · rw [hdmv] at hdm HCS
                    have HC2 : Hid (cntD D (m + 1) = y + 1) := HCS.out
                    clear hdmv HCS
                    go_wp2
                    go_roundw
                    case rel => exact ⟨m + 1, by omega, by go_num, by rw [HC2.out]; go_num, trivial⟩
                    case measure => simp [intOf]; omega
                  · rw [hdmv] at hdm HCS
                    have HC2 : Hid (cntD D (m + 1) = y) := HCS.out
                    clear hdmv HCS
                    go_wp2
                    go_roundw
                    case rel => exact ⟨m + 1, by omega, by go_num, by rw [HC2.out], trivial⟩
                    case measure => simp [intOf]; omega
                · have hme : m = k := by omega
                  subst hme
                  rw [HX.out]
                  by_cases ho : (insOf (codeR (oneQ code)) m 0).op = 1
                  · have hav : (av == 1) = true := by rw [HOP.out]; exact decide_eq_true ho
                    have HST2 : Hid (AInv (codeR (oneQ code)) (D.set m true) (now ++ [(x : Int)]) (later ++ [(x : Int)] ++ [(x : Int)])) := by
                      have := HST.out
                      rw [if_pos ho, ← List.append_assoc] at this
                      exact this
                    clear ho HST
                    go_wp2_with (first | (at_builtin; refine wpList_pushZG rfl _ _ 26 rfl wB.heap.size 3 Try.underlying26 Try.infoIntZ _ _ (x : Int) (by rfl) (by rfl) HON.out HLN.out HSZ.out ?_; intro v6 w6 h6 g6; have hb6 : Below wB.heap.size wr w6 := g6.below (Below.refl _ _) HSZ.out HON.out; have HON6 : Hid (OwnZ w6 wB.heap.size 3 v6 (now ++ [(x : Int)])) := h6; have HOL6 : Hid (OwnZ w6 wB.heap.size 3 u8 later) := OwnZ.grew HOL.out g6 HDJ.out; have HDJ6 : Hid (Dj v6 u8) := HDJ.out.grew g6 HOL.out; have HB6 : Hid (Below wB.heap.size wr w6) := hb6; have HSZ6 : Hid (wB.heap.size ≤ w6.heap.size) := Nat.le_trans HSZ.out hb6.size; clear h6 g6 hb6 HON) | (at_builtin; refine wpList_pushZG rfl _ _ 26 rfl wB.heap.size 3 Try.underlying26 Try.infoIntZ _ _ (x : Int) (by rfl) (by rfl) HOL6.out HLL.out HSZ6.out ?_; intro v7 w7 h7 g7; have hb7 : Below wB.heap.size w6 w7 := g7.below (Below.refl _ _) HSZ6.out HOL6.out; have HOL7 : Hid (OwnZ w7 wB.heap.size 3 v7 (later ++ [(x : Int)])) := h7; have HON7 : Hid (OwnZ w7 wB.heap.size 3 v6 (now ++ [(x : Int)])) := OwnZ.grew HON6.out g7 HDJ6.out.symm; have HDJ7 : Hid (Dj v6 v7) := (HDJ6.out.symm.grew g7 HON6.out).symm; have HB7 : Hid (Below wB.heap.size wr w7) := HB6.out.trans (hb7.mono (Nat.le_refl _)); have HSZ7 : Hid (wB.heap.size ≤ w7.heap.size) := Nat.le_trans HSZ6.out hb7.size; obtain ⟨d1, d2, d3, d4, d5, d6, d7, d8, d9⟩ := HFAC.out w7 HB7.out; clear h7 g7 hb7 HOL6) | (at_builtin; refine wpList_pushZG rfl _ _ 26 rfl wB.heap.size 3 Try.underlying26 Try.infoIntZ _ _ (x : Int) (by rfl) (by rfl) HOL7.out HLL2.out HSZ7.out ?_; intro v8 w8 h8 g8; have hb8 : Below wB.heap.size w7 w8 := g8.below (Below.refl _ _) HSZ7.out HOL7.out; have HOL8 : Hid (OwnZ w8 wB.heap.size 3 v8 ((later ++ [(x : Int)]) ++ [(x : Int)])) := h8; have HON8 : Hid (OwnZ w8 wB.heap.size 3 v6 (now ++ [(x : Int)])) := OwnZ.grew HON7.out g8 HDJ7.out.symm; have HDJ8 : Hid (Dj v6 v8) := (HDJ7.out.symm.grew g8 HON7.out).symm; have HB8 : Hid (Below wB.heap.size wr w8) := HB7.out.trans (hb8.mono (Nat.le_refl _)); have HSZ8 : Hid (wB.heap.size ≤ w8.heap.size) := Nat.le_trans HSZ7.out hb8.size; clear d1 d2 d3 d4 d5 d6 d7 d8 d9; obtain ⟨d1, d2, d3, d4, d5, d6, d7, d8, d9⟩ := HFAC.out w8 HB8.out; clear h8 g8 hb8 HOL7))
                    go_roundw
                    case rel => exact ⟨q + 1, D.set m true, _, _, by omega, by go_num, HST2.out, (HB.out.trans (HB8.out.mono (by omega))).setCell (p := ⟨gd, m, none⟩) hg1 _, by simpa [World.setCell] using HSZ8.out, DRd.set (DRd.kept HDR.out HB8.out hg2) (by rw [HDL.out]; exact hkc), ownsRow_setCell_below HON8.out hg2 _, ownsRow_setCell_below HOL8.out hg2 _, HDJ8.out⟩
                    case measure => simp [intOf]; omega
                  · have hav : (av == 1) = false := by rw [HOP.out]; exact decide_eq_false ho
                    have HST2 : Hid (AInv (codeR (oneQ code)) (D.set m true) (now ++ [(x : Int)]) (later ++ [(x : Int)])) := by
                      have := HST.out
                      rw [if_neg ho, List.append_nil] at this
                      exact this
                    clear ho HST
                    go_wp2_with (first | (at_builtin; refine wpList_pushZG rfl _ _ 26 rfl wB.heap.size 3 Try.underlying26 Try.infoIntZ _ _ (x : Int) (by rfl) (by rfl) HON.out HLN.out HSZ.out ?_; intro v6 w6 h6 g6; have hb6 : Below wB.heap.size wr w6 := g6.below (Below.refl _ _) HSZ.out HON.out; have HON6 : Hid (OwnZ w6 wB.heap.size 3 v6 (now ++ [(x : Int)])) := h6; have HOL6 : Hid (OwnZ w6 wB.heap.size 3 u8 later) := OwnZ.grew HOL.out g6 HDJ.out; have HDJ6 : Hid (Dj v6 u8) := HDJ.out.grew g6 HOL.out; have HB6 : Hid (Below wB.heap.size wr w6) := hb6; have HSZ6 : Hid (wB.heap.size ≤ w6.heap.size) := Nat.le_trans HSZ.out hb6.size; clear h6 g6 hb6 HON) | (at_builtin; refine wpList_pushZG rfl _ _ 26 rfl wB.heap.size 3 Try.underlying26 Try.infoIntZ _ _ (x : Int) (by rfl) (by rfl) HOL6.out HLL.out HSZ6.out ?_; intro v7 w7 h7 g7; have hb7 : Below wB.heap.size w6 w7 := g7.below (Below.refl _ _) HSZ6.out HOL6.out; have HOL7 : Hid (OwnZ w7 wB.heap.size 3 v7 (later ++ [(x : Int)])) := h7; have HON7 : Hid (OwnZ w7 wB.heap.size 3 v6 (now ++ [(x : Int)])) := OwnZ.grew HON6.out g7 HDJ6.out.symm; have HDJ7 : Hid (Dj v6 v7) := (HDJ6.out.symm.grew g7 HON6.out).symm; have HB7 : Hid (Below wB.heap.size wr w7) := HB6.out.trans (hb7.mono (Nat.le_refl _)); have HSZ7 : Hid (wB.heap.size ≤ w7.heap.size) := Nat.le_trans HSZ6.out hb7.size; obtain ⟨d1, d2, d3, d4, d5, d6, d7, d8, d9⟩ := HFAC.out w7 HB7.out; clear h7 g7 hb7 HOL6))
                    go_roundw
                    case rel => exact ⟨q + 1, D.set m true, _, _, by omega, by go_num, HST2.out, (HB.out.trans (HB7.out.mono (by omega))).setCell (p := ⟨gd, m, none⟩) hg1 _, by simpa [World.setCell] using HSZ7.out, DRd.set (DRd.kept HDR.out HB7.out hg2) (by rw [HDL.out]; exact hkc), ownsRow_setCell_below HON7.out hg2 _, ownsRow_setCell_below HOL7.out hg2 _, HDJ7.out⟩
                    case measure => simp [intOf]; omega
            · rw [hdv] at hdk
              go_wp2_with (go_at_call 13; refine Calls.mono HPK.out ?_; rintro r wr ⟨rfl, rfl⟩)
              go_roundw
              case rel => exact ⟨q + 1, D, now, later, by omega, by go_num, HAI.out, HB.out, HSZ.out, HDR.out, HON.out, HOL.out, HDJ.out⟩
              case measure => simp [intOf]; omega
          · have HRN : Hid ((∀ i : Nat, i < now.length → (-9223372036854775808 ≤ now[i]?.getD 0 ∧ now[i]?.getD 0 ≤ 9223372036854775807)) ∧ (∀ i : Nat, i < later.length → (-9223372036854775808 ≤ later[i]?.getD 0 ∧ later[i]?.getD 0 ≤ 9223372036854775807))) := by
              obtain ⟨_, _, _, _, _, _, _, _, hx, hy⟩ := HAI.out
              exact ⟨fun i hi => by have := hx _ (getD_mem 0 hi); omega, fun i hi => by have := hy _ (getD_mem 0 hi); omega⟩
            have HSN : Hid _ := OwnZ.scr HON.out HRN.out.1
            have HSL : Hid _ := OwnZ.scr HOL.out HRN.out.2
            obtain ⟨na, nc, hnw⟩ := OwnZ.len HON.out
            obtain ⟨la, lc, hlw⟩ := OwnZ.len HOL.out
            obtain ⟨nn, hnn⟩ : ∃ n, now.length = n := ⟨_, rfl⟩
            obtain ⟨ln2, hln2⟩ : ∃ n, later.length = n := ⟨_, rfl⟩
            rw [hnn] at hnw
            rw [hln2] at hlw
            subst hnw hlw
            have HEQ : Hid _ := HAI.out.play (one_oneC HNE.out) (by rw [one_len, HCN.out]; exact hcn16)
            have HP0 : Hid _ := pplay_any nv (.slice va cn vc) (.slice xa 0 xc) (.slice na nn nc) (oneQ code) [] 0 (w3.heap.size + 1) 0 (Or.inl rfl) now wr HAW2.out.CV HAW2.out.WV HAW2.out.hB hnv HS1.out HSN.out
            have HLE : Hid ((endS (codeR (oneQ code)).length (playS (codeR (oneQ code)) 0 now)).length = cn * 16 + 16) := by show _ = _; rw [endS_length, one_len, HCN.out]
            obtain ⟨e0, e1, e2, ez⟩ := HAW2.out.vc
            clear hnn hln2 HON HOL HDJ HDR HSZ c1 cz HAI HRN
            go_wp2_with fail
            refine Calls.mono HP0.out ?_
            rintro r w7 ⟨v7, rfl, hO7, hb7⟩
            have HAW7 : Hid _ := HAW2.out.kept hb7
            have HSL7 : Hid (ScrRd w7 (.slice la ln2 lc) later) := ScrRd.kept HSL.out hb7
            have HP1 : Hid _ := pplay_any nv (.slice va cn vc) (.slice xa 0 xc) (.slice la ln2 lc) (oneQ code) [] 0 (w3.heap.size + 1) 1 (Or.inr rfl) later w7 HAW7.out.CV HAW7.out.WV HAW7.out.hB hnv HS1.out HSL7.out
            rw [← HEQ.out] at HP1
            generalize endS (codeR (oneQ code)).length (playS (codeR (oneQ code)) 0 now) = L at *
            obtain ⟨aa, ac, hv7, _⟩ := id (Own.numR hO7)
            obtain ⟨ln, hln⟩ : ∃ n, L.length = n := ⟨_, rfl⟩
            rw [hln] at hv7 HLE
            have HLN : Hid _ := hln
            subst hv7
            have HNA7 : Hid (NumR w7 (.slice aa ln ac) L) := Own.numR hO7
            clear e0 e1 e2 ez hO7 hb7 hln HP0
            obtain ⟨e0, e1, e2, ez⟩ := HAW7.out.vc
            have hleq : ((ln : Int) == (cn : Int) * 16 + 16) = true := by rw [beq_iff_eq]; have := HLE.out; omega
            have hln3 : ln ≤ 1000 := by have := HLE.out; omega
            go_wp2_with fail
            refine Calls.mono HP1.out ?_
            rintro r w8 ⟨v8, rfl, hO8, hb8⟩
            have HAW8 : Hid _ := HAW7.out.kept hb8
            have HNA8 : Hid (NumR w8 (.slice aa ln ac) L) := HNA7.out.kept hb8
            obtain ⟨ba, bc, hv8, _⟩ := id (Own.numR hO8)
            rw [HLN.out] at hv8
            subst hv8
            have HNB8 : Hid (NumR w8 (.slice ba ln bc) L) := Own.numR hO8
            clear e0 e1 e2 ez hO8 hb8 HP1
            have HSR : Hid _ := sameIntsR L (.slice aa ln ac) (.slice ba ln bc) w8 HNA8.out HNB8.out (by rw [HLN.out]; omega)
            go_wp2_with fail
            refine Calls.mono HSR.out ?_
            rintro r w9 ⟨rfl, m9, hw9⟩
            have hb9 : Below w8.heap.size w8 w9 := by rw [hw9]; exact below_drewN (Below.refl _ _) m9
            have HAW9 : Hid _ := HAW8.out.kept hb9
            obtain ⟨c1, cz⟩ := HAW9.out.u1
            clear hb9 hw9 HSR
            go_wp2_with (go_at_call 9; refine (numA_any _ _).mono ?_; rintro r w9 ⟨rfl, rfl⟩)
            go_ret
            exact ⟨by first | rfl | simp [hleq], HAW9.out.below⟩

end Go.Proofs.Ytokfiflflcfidab
