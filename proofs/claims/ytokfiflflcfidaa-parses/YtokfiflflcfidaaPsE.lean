import Derived.Test.YtokfiflflcfidaaRows
import Derived.Test.YtokfiflflcfidaaPsN
import Derived.WalkKit
import Derived.WalkSpells
import Derived.WalkLawsBesides
namespace Go.Proofs.Ytokfiflflcfidaa
open Go.RowKit

theorem fin3P {w wr : World} {T : Nat} {z0 z1 z2 : Value} {B : Nat} (hb : Below (w.heap.size + 1) (w.alloc (.cells #[z0, z1, z2] T)) wr) (hB : w.heap.size + 1 ≤ B) (a b c : Value) :
    Span B wr.heap.size wr (((wr.setCell ⟨w.heap.size, 0, none⟩ a).setCell ⟨w.heap.size, 1, none⟩ b).setCell ⟨w.heap.size, 2, none⟩ c) ∧ Below w.heap.size w (((wr.setCell ⟨w.heap.size, 0, none⟩ a).setCell ⟨w.heap.size, 1, none⟩ b).setCell ⟨w.heap.size, 2, none⟩ c) ∧
    wr.cell? ⟨w.heap.size, 0, none⟩ = some z0 ∧ wr.cell? ⟨w.heap.size, 1, none⟩ = some z1 ∧ wr.cell? ⟨w.heap.size, 2, none⟩ = some z2 ∧ wr.frozen? ⟨w.heap.size, 0, none⟩ = false ∧ wr.frozen? ⟨w.heap.size, 1, none⟩ = false ∧ wr.frozen? ⟨w.heap.size, 2, none⟩ = false := by
  have hrow : wr.heap[w.heap.size]? = some (.cells #[z0, z1, z2] T (0, 0)) := (hb.block _ (by omega)).trans (heap_alloc_new w _)
  have hb0 : Below w.heap.size w wr := ((Below.refl _ _).alloc (Nat.le_refl _) _).trans (hb.mono (by omega))
  refine ⟨(((Span.refl _ _ wr).set (Or.inl (by omega)) _).set (Or.inl (by omega)) _).set (Or.inl (by omega)) _, ((hb0.setCell (Nat.le_refl _) _).setCell (Nat.le_refl _) _).setCell (Nat.le_refl _) _, ?_, ?_, ?_, frozen_of_row _ _ _ _ _ hrow, frozen_of_row _ _ _ _ _ hrow, frozen_of_row _ _ _ _ _ hrow⟩
  · rw [cell_of_row _ _ 0 _ _ _ hrow]; rfl
  · rw [cell_of_row _ _ 1 _ _ _ hrow]; rfl
  · rw [cell_of_row _ _ 2 _ _ _ hrow]; rfl

/-- what the program reads out of a text -/
def PsPost (s : List UInt8) (w w' : World) (nv : ByteArray) (cv wv : Value) : Prop :=
  (psOk s = true → nv = ⟨(psNm s).toArray⟩ ∧ Rd44 w.heap.size w'.heap.size w' cv (psC s) ∧ Rd4 w.heap.size w'.heap.size w' wv (psW s)) ∧ (psOk s = false → nv = ⟨#[]⟩ ∧ cv = .slice none 0 0 ∧ wv = .slice none 0 0) ∧ Below w.heap.size w w'

theorem thrs_len (L : List (List UInt8)) (k : Nat) (hk : k ≤ 16) : (thrs k L).length + k ≤ 16 := by
  induction L generalizing k with
  | nil => simpa [thrs] using hk
  | cons x xs ih =>
    unfold thrs
    split
    · rename_i h
      have := ih (k + 1) (by omega)
      simp only [List.length_cons]
      omega
    · simpa using hk
theorem sub_at (ps : List (List UInt8)) (la i : Nat) (hi : i < ((ps.take la).drop 1).length) : ((ps.take la).drop 1)[i]?.getD [] = ps[1 + i]?.getD [] := by
  rw [List.length_drop, List.length_take] at hi
  rw [List.getElem?_drop, List.getElem?_take_of_lt (by omega)]

set_option maxRecDepth 100000 in
set_option maxHeartbeats 1600000 in
theorem parseTest_any (s : ByteArray) (hs : s.size ≤ 900000) (w : World) :
    Calls Try.prog 27 #[.string s] w fun r w' => ∃ nv cv wv, r = .returned (.tuple #[.agg #[.string nv, cv, wv], .bool (psOk s.data.toList), .int .i64 (psAt s.data.toList : Nat)]) ∧ PsPost s.data.toList w w' nv cv wv := by
  have HWB : Hid (∀ i : Nat, ((spS 10 s.data.toList)[i]?.getD []).length ≤ 900000) := fun i => by
    by_cases hi : i < (spS 10 s.data.toList).length
    · have := spS_mem (getD_mem [] hi)
      rw [byP_len] at this
      omega
    · rw [List.getElem?_eq_none (by omega)]; simp
  have HLN : Hid _ := spS_len 10 s.data.toList
  obtain ⟨A, hA⟩ : ∃ n, psAt s.data.toList = n := ⟨_, rfl⟩
  obtain ⟨K, hK⟩ : ∃ n, psOk s.data.toList = n := ⟨_, rfl⟩
  have hA' := hA
  have hK' := hK
  unfold psAt at hA'
  unfold psOk at hK'
  have HDC : Hid (thrs 0 (((spS 10 s.data.toList).take (psN s.data.toList)).drop 1) = psC s.data.toList) := rfl
  have HDN : Hid (psN s.data.toList = (spS 10 s.data.toList).length - 1) := rfl
  obtain ⟨la, hla⟩ : ∃ n, psN s.data.toList = n := ⟨_, rfl⟩
  have HLA : Hid ((spS 10 s.data.toList).length = la + 1) := by show _ = _; have := HLN.out.1; have := HDN.out; omega
  have hla2 : la ≤ 900000 := by have := HLN.out.2; rw [byP_len] at this; have := HLA.out; omega
  rw [hla] at hA' hK' HDC
  have HDA : Hid _ := hA'.symm
  have HDO : Hid _ := hK'.symm
  have HPO : Hid (∀ w' nv cv wv, (K = true → nv = ⟨(nmR ((spS 10 s.data.toList)[0]?.getD [])).toArray⟩ ∧ Rd44 w.heap.size w'.heap.size w' cv (psC s.data.toList) ∧ Rd4 w.heap.size w'.heap.size w' wv (wntR ((spS 10 s.data.toList)[1 + (psC s.data.toList).length]?.getD []))) → (K = false → nv = ⟨#[]⟩ ∧ cv = .slice none 0 0 ∧ wv = .slice none 0 0) → Below w.heap.size w w' → PsPost s.data.toList w w' nv cv wv) := fun w' nv cv wv h1 h2 h3 => ⟨fun h => h1 (by rw [← hK]; exact h), fun h => h2 (by rw [← hK]; exact h), h3⟩
  rw [hA, hK]
  have HSP : Hid _ := fun wx => split_any s (by omega) 10 wx
  clear hA hK hla hA' hK' HDN
  generalize psC s.data.toList = C at *
  generalize spS 10 s.data.toList = ps at *
  have hB0 : Below (w.heap.size + 1) (w.alloc (.cells #[.string ⟨#[]⟩, .slice none 0 0, .slice none 0 0] 29)) (w.alloc (.cells #[.string ⟨#[]⟩, .slice none 0 0, .slice none 0 0] 29)) := Below.refl _ _
  have hs0 : (w.alloc (.cells #[.string ⟨#[]⟩, .slice none 0 0, .slice none 0 0] 29)).heap.size = w.heap.size + 1 := by simp
  go_enter Try.func27, Try.ntmps27
  go_wp2_with fail
  refine Calls.mono (HSP.out _) ?_
  rintro r w1 ⟨v1, rfl, hO1, hb1⟩
  rw [hs0] at hb1
  have hX1 := OwnS.txrd hO1 (by have := HLN.out.1; omega)
  obtain ⟨gb, go, gc, rfl, hgc, hgb, hcell⟩ := hX1
  have HCELL : Hid _ := hcell
  have HB1 : Hid (Below (w.heap.size + 1) (w.alloc (.cells #[.string ⟨#[]⟩, .slice none 0 0, .slice none 0 0] 29)) w1) := hb1
  have hs1 := hb1.size
  rw [hs0] at hs1
  rw [HLA.out] at HCELL hgc ⊢
  clear hO1 hb1 hcell hB0 hs0
  by_cases hl1 : la < 1
  · have hl1i : (la : Int) < 1 := by omega
    have HK : Hid (K = false ∧ A = 0) := ⟨by rw [HDO.out, decide_eq_false (show ¬ 1 ≤ la by omega)]; simp, by rw [HDA.out, if_pos hl1]⟩
    obtain ⟨hF1, hF2, r0, r1, r2, f0, f1, f2⟩ := fin3P HB1.out (B := w1.heap.size) hs1 (.string ⟨#[]⟩) (.slice none 0 0) (.slice none 0 0)
    have HF2 : Hid _ := hF2
    clear hF1 hF2
    go_wp2
    refine bodyPost_ret (v := .tuple #[.agg #[.string ⟨#[]⟩, .slice none 0 0, .slice none 0 0], .bool false, .int .i64 0]) (by simp [results, Try.results27, go_sem, r0, r1, r2]) rfl ⟨_, _, _, by rw [HK.out.1, HK.out.2]; rfl, HPO.out _ _ _ _ (fun h => by rw [HK.out.1] at h; cases h) (fun _ => ⟨rfl, rfl, rfl⟩) HF2.out⟩
  · have hl1i : ¬ ((la : Int) < 1) := by omega
    have hc0 := HCELL.out 0 (by omega)
    rw [Nat.add_zero] at hc0
    have hda : (⟨(ps[0]?.getD []).toArray⟩ : ByteArray).data.toList = ps[0]?.getD [] := by_data _
    have HRN : Hid _ := fun wx => readNameLine_any ⟨(ps[0]?.getD []).toArray⟩ (by rw [by_size]; exact HWB.out 0) wx
    rw [hda] at HRN
    clear hda
    have HDO2 : Hid (nmB (ps[0]?.getD []) = false → K = false ∧ A = 0) := fun h => ⟨by rw [HDO.out, h]; simp, by rw [HDA.out, if_neg hl1, if_pos h]⟩
    obtain ⟨nmv, hnmv⟩ : ∃ x, nmR (ps[0]?.getD []) = x := ⟨_, rfl⟩
    obtain ⟨okn, hokn⟩ : ∃ x, nmB (ps[0]?.getD []) = x := ⟨_, rfl⟩
    rw [hnmv, hokn] at HRN
    rw [hnmv] at HPO
    rw [hokn] at HDO HDA HDO2
    generalize (⟨(ps[0]?.getD []).toArray⟩ : ByteArray) = l0 at *
    clear hnmv hokn
    go_wp2_with fail
    refine Calls.mono (HRN.out _) ?_
    rintro r w2 ⟨rfl, hb2⟩
    have HB2 : Hid (Below (w.heap.size + 1) (w.alloc (.cells #[.string ⟨#[]⟩, .slice none 0 0, .slice none 0 0] 29)) w2) := HB1.out.trans (hb2.mono hs1)
    have hs2 : w.heap.size + 1 ≤ w2.heap.size := by have := hb2.size; omega
    have hgb2 : gb < w2.heap.size := by have := hb2.size; omega
    have HCELL2 : Hid (∀ i, i < la + 1 → w2.cell? ⟨gb, go + i, none⟩ = some (.string ⟨(ps[i]?.getD []).toArray⟩)) := fun i hi => (hb2.cell (p := ⟨gb, go + i, none⟩) hgb).trans (HCELL.out i hi)
    clear hb2 hc0 HCELL HB1 HRN
    cases okn
    · have HK : Hid (K = false ∧ A = 0) := HDO2.out rfl
      obtain ⟨hF1, hF2, r0, r1, r2, f0, f1, f2⟩ := fin3P HB2.out (B := w2.heap.size) hs2 (.string ⟨#[]⟩) (.slice none 0 0) (.slice none 0 0)
      have HF2 : Hid _ := hF2
      clear hF1 hF2
      go_wp2
      refine bodyPost_ret (v := .tuple #[.agg #[.string ⟨#[]⟩, .slice none 0 0, .slice none 0 0], .bool false, .int .i64 0]) (by simp [results, Try.results27, go_sem, r0, r1, r2]) rfl ⟨_, _, _, by rw [HK.out.1, HK.out.2]; rfl, HPO.out _ _ _ _ (fun h => by rw [HK.out.1] at h; cases h) (fun _ => ⟨rfl, rfl, rfl⟩) HF2.out⟩
    · have HTX : Hid (TxL w2 (.slice (some ⟨gb, go + 1, none⟩) (la - 1) (gc - 1)) ((ps.take la).drop 1)) := by
        have hll : ((ps.take la).drop 1).length = la - 1 := by rw [List.length_drop, List.length_take, HLA.out]; omega
        refine ⟨some ⟨gb, go + 1, none⟩, gc - 1, by rw [hll], fun i hi => ⟨gb, go + 1, rfl, hgb2, ?_⟩⟩
        rw [sub_at ps la i hi, Nat.add_assoc]
        exact HCELL2.out (1 + i) (by rw [hll] at hi; omega)
      have HRT : Hid _ := readThreads_any ((ps.take la).drop 1) (.slice (some ⟨gb, go + 1, none⟩) (la - 1) (gc - 1)) w2 HTX.out (fun i => by
        by_cases hi : i < ((ps.take la).drop 1).length
        · rw [sub_at ps la i hi]; exact HWB.out _
        · rw [List.getElem?_eq_none (by omega)]; simp)
      rw [HDC.out] at HRT
      go_wp2_with fail
      refine Calls.mono HRT.out ?_
      rintro r w3 ⟨v3, rfl, hO3, hb3⟩
      have HB3 : Hid (Below (w.heap.size + 1) (w.alloc (.cells #[.string ⟨#[]⟩, .slice none 0 0, .slice none 0 0] 29)) w3) := HB2.out.trans (hb3.mono hs2)
      have hs3 : w.heap.size + 1 ≤ w3.heap.size := by have := hb3.size; omega
      have hgb3 : gb < w3.heap.size := by have := hb3.size; omega
      have HCELL3 : Hid (∀ i, i < la + 1 → w3.cell? ⟨gb, go + i, none⟩ = some (.string ⟨(ps[i]?.getD []).toArray⟩)) := fun i hi => (hb3.cell (p := ⟨gb, go + i, none⟩) hgb2).trans (HCELL2.out i hi)
      obtain ⟨ra, rc, hv3⟩ := Own44.len hO3
      have HC3 : Hid (Rd44 w2.heap.size w3.heap.size w3 v3 C) := Own44.rd hO3
      obtain ⟨cn, hcn⟩ : ∃ n, C.length = n := ⟨_, rfl⟩
      rw [hcn] at hv3 HDO HDA
      subst hv3
      have HCN : Hid _ := hcn
      rw [hcn] at HPO
      have hcl : cn ≤ 16 := by have := thrs_len ((ps.take la).drop 1) 0 (by omega); rw [HDC.out, HCN.out] at this; exact this
      clear hb3 hO3 hcn HRT HTX HCELL2 HB2
      by_cases hg : la ≤ 1 + cn ∨ cn = 0
      · have HK : Hid (K = false ∧ A = 1 + cn) := ⟨by
            rw [HDO.out]
            rcases hg with h | h
            · rw [decide_eq_false (show ¬ 1 + cn < la by omega)]; simp
            · rw [decide_eq_false (show ¬ 0 < cn by omega)]; simp, by rw [HDA.out, if_neg hl1, if_neg (by simp), if_pos hg]⟩
        obtain ⟨hF1, hF2, r0, r1, r2, f0, f1, f2⟩ := fin3P HB3.out (B := w3.heap.size) hs3 (.string ⟨#[]⟩) (.slice none 0 0) (.slice none 0 0)
        have HF2 : Hid _ := hF2
        have hgi : ((la : Int) ≤ 1 + (cn : Int)) ∨ (¬ ((la : Int) ≤ 1 + (cn : Int)) ∧ cn = 0) := by omega
        clear hF1 hF2 hg
        rcases hgi with hgi | ⟨hgi, rfl⟩
        · go_wp2
          refine bodyPost_ret (v := .tuple #[.agg #[.string ⟨#[]⟩, .slice none 0 0, .slice none 0 0], .bool false, .int .i64 (1 + (cn : Int))]) (by simp [results, Try.results27, go_sem, r0, r1, r2]) rfl ⟨_, _, _, by rw [HK.out.1, HK.out.2]; push_cast; rfl, HPO.out _ _ _ _ (fun h => by rw [HK.out.1] at h; cases h) (fun _ => ⟨rfl, rfl, rfl⟩) HF2.out⟩
        · go_wp2
          refine bodyPost_ret (v := .tuple #[.agg #[.string ⟨#[]⟩, .slice none 0 0, .slice none 0 0], .bool false, .int .i64 1]) (by simp [results, Try.results27, go_sem, r0, r1, r2]) rfl ⟨_, _, _, by rw [HK.out.1, HK.out.2]; rfl, HPO.out _ _ _ _ (fun h => by rw [HK.out.1] at h; cases h) (fun _ => ⟨rfl, rfl, rfl⟩) HF2.out⟩
      · have hgi : ¬ ((la : Int) ≤ 1 + (cn : Int)) := by omega
        have hcn0 : ((cn : Int) == 0) = false := by rw [beq_eq_false_iff_ne]; omega
        have hca := HCELL3.out (1 + cn) (by omega)
        have hda : (⟨(ps[1 + cn]?.getD []).toArray⟩ : ByteArray).data.toList = ps[1 + cn]?.getD [] := by_data _
        have HRW : Hid _ := fun wx => readWantLine_any ⟨(ps[1 + cn]?.getD []).toArray⟩ (by rw [by_size]; exact HWB.out _) cn wx
        rw [hda] at HRW
        have HDO3 : Hid (wntB cn (ps[1 + cn]?.getD []) = false → K = false ∧ A = 1 + cn) := fun h => ⟨by rw [HDO.out, h]; simp, by rw [HDA.out, if_neg hl1, if_neg (by simp), if_neg hg, if_pos h]⟩
        obtain ⟨wtv, hwtv⟩ : ∃ x, wntR (ps[1 + cn]?.getD []) = x := ⟨_, rfl⟩
        obtain ⟨okw, hokw⟩ : ∃ x, wntB cn (ps[1 + cn]?.getD []) = x := ⟨_, rfl⟩
        rw [hwtv, hokw] at HRW
        rw [hwtv] at HPO
        rw [hokw] at HDO HDA HDO3
        generalize (⟨(ps[1 + cn]?.getD []).toArray⟩ : ByteArray) = l1 at *
        clear hwtv hokw hda
        go_wp2_with fail
        refine Calls.mono (HRW.out _) ?_
        rintro r w4 ⟨v4, rfl, hO4, hb4⟩
        have HB4 : Hid (Below (w.heap.size + 1) (w.alloc (.cells #[.string ⟨#[]⟩, .slice none 0 0, .slice none 0 0] 29)) w4) := HB3.out.trans (hb4.mono hs3)
        have hs4 : w.heap.size + 1 ≤ w4.heap.size := by have := hb4.size; omega
        have hgb4 : gb < w4.heap.size := by have := hb4.size; omega
        have hcb : w4.cell? ⟨gb, go + la, none⟩ = some (.string ⟨(ps[la]?.getD []).toArray⟩) := (hb4.cell (p := ⟨gb, go + la, none⟩) hgb3).trans (HCELL3.out la (by omega))
        have HC4 : Hid (Rd44 w2.heap.size w3.heap.size w4 (.slice ra cn rc) C) := Rd44.span HC3.out (Span.of_below hb4 (Nat.le_refl _))
        have HW4 : Hid (Rd4 w3.heap.size w4.heap.size w4 v4 wtv) := Own4.rd hO4 (Nat.le_refl _)
        have HS4 : Hid (w3.heap.size ≤ w4.heap.size) := hb4.size
        obtain ⟨qa, qc, hv4⟩ := Own4.len hO4
        obtain ⟨wn, hwn⟩ : ∃ n, wtv.length = n := ⟨_, rfl⟩
        rw [hwn] at hv4
        subst hv4
        clear hb4 hO4 hwn hca HRW HCELL3 HB3
        cases okw
        · have HK : Hid (K = false ∧ A = 1 + cn) := HDO3.out rfl
          obtain ⟨hF1, hF2, r0, r1, r2, f0, f1, f2⟩ := fin3P HB4.out (B := w4.heap.size) hs4 (.string ⟨#[]⟩) (.slice none 0 0) (.slice none 0 0)
          have HF2 : Hid _ := hF2
          clear hF1 hF2
          go_wp2
          refine bodyPost_ret (v := .tuple #[.agg #[.string ⟨#[]⟩, .slice none 0 0, .slice none 0 0], .bool false, .int .i64 (1 + (cn : Int))]) (by simp [results, Try.results27, go_sem, r0, r1, r2]) rfl ⟨_, _, _, by rw [HK.out.1, HK.out.2]; push_cast; rfl, HPO.out _ _ _ _ (fun h => by rw [HK.out.1] at h; cases h) (fun _ => ⟨rfl, rfl, rfl⟩) HF2.out⟩
        · by_cases hn : 2 + cn = la
          · cases hq : ((⟨(ps[la]?.getD []).toArray⟩ : ByteArray).toList == [])
            · have HK : Hid (K = false ∧ A = 2 + cn) := by
                rw [ByteArray.toList_eq, by_data] at hq
                exact ⟨by rw [HDO.out, hq]; simp, by rw [HDA.out, if_neg hl1, if_neg (by simp), if_neg hg, if_neg (by simp), if_pos (Or.inr (by simpa using hq))]⟩
              have hqn : ((⟨(ps[la]?.getD []).toArray⟩ : ByteArray).toList != []) = true := by rw [bne, hq]; rfl
              obtain ⟨hF1, hF2, r0, r1, r2, f0, f1, f2⟩ := fin3P HB4.out (B := w4.heap.size) hs4 (.string ⟨#[]⟩) (.slice none 0 0) (.slice none 0 0)
              have HF2 : Hid _ := hF2
              clear hF1 hF2
              generalize (⟨(ps[la]?.getD []).toArray⟩ : ByteArray) = l2 at *
              have hni : ((1 + (cn : Int) + 1 != (la : Int))) = false := by rw [bne, Bool.not_eq_false', beq_iff_eq]; omega
              clear hn
              go_wp2
              refine bodyPost_ret (v := .tuple #[.agg #[.string ⟨#[]⟩, .slice none 0 0, .slice none 0 0], .bool false, .int .i64 (1 + (cn : Int) + 1)]) (by simp [results, Try.results27, go_sem, r0, r1, r2]) rfl ⟨_, _, _, by rw [HK.out.1, HK.out.2, show ((2 + cn : Nat) : Int) = 1 + (cn : Int) + 1 by omega], HPO.out _ _ _ _ (fun h => by rw [HK.out.1] at h; cases h) (fun _ => ⟨rfl, rfl, rfl⟩) HF2.out⟩
            · have HK : Hid (K = true ∧ A = 0) := by
                rw [ByteArray.toList_eq, by_data] at hq
                have hq' : ps[la]?.getD [] = [] := by simpa using hq
                exact ⟨by rw [HDO.out, hq, decide_eq_true (show 1 ≤ la by omega), decide_eq_true (show 1 + cn < la by omega), decide_eq_true (show 0 < cn by omega), decide_eq_true hn]; rfl, by rw [HDA.out, if_neg hl1, if_neg (by simp), if_neg hg, if_neg (by simp), if_neg (by rw [hq']; simp; omega)]⟩
              have hqn : ((⟨(ps[la]?.getD []).toArray⟩ : ByteArray).toList != []) = false := by rw [bne, hq]; rfl
              obtain ⟨hF1, hF2, r0, r1, r2, f0, f1, f2⟩ := fin3P HB4.out (B := w.heap.size + 1) (Nat.le_refl _) (.string ⟨nmv.toArray⟩) (.slice ra cn rc) (.slice qa wn qc)
              have HF2 : Hid _ := hF2
              have HC5 : Hid _ := ((HC4.out.mono hs2 HS4.out).span hF1).mono (Nat.le_succ _) hF1.size
              have HW5 : Hid _ := ((HW4.out.mono hs3 (Nat.le_refl _)).span hF1).mono (Nat.le_succ _) hF1.size
              clear hF1 hF2
              generalize (⟨(ps[la]?.getD []).toArray⟩ : ByteArray) = l2 at *
              have hni : ((1 + (cn : Int) + 1 != (la : Int))) = false := by rw [bne, Bool.not_eq_false', beq_iff_eq]; omega
              clear hn
              go_wp2
              refine bodyPost_ret (v := .tuple #[.agg #[.string ⟨nmv.toArray⟩, .slice ra cn rc, .slice qa wn qc], .bool true, .int .i64 0]) (by simp [results, Try.results27, go_sem, r0, r1, r2]) rfl ⟨_, _, _, by rw [HK.out.1, HK.out.2]; rfl, HPO.out _ _ _ _ (fun _ => ⟨rfl, HC5.out, HW5.out⟩) (fun h => by rw [HK.out.1] at h; cases h) HF2.out⟩
          · have HK : Hid (K = false ∧ A = 2 + cn) := ⟨by rw [HDO.out, decide_eq_false hn]; simp, by rw [HDA.out, if_neg hl1, if_neg (by simp), if_neg hg, if_neg (by simp), if_pos (Or.inl hn)]⟩
            obtain ⟨hF1, hF2, r0, r1, r2, f0, f1, f2⟩ := fin3P HB4.out (B := w4.heap.size) hs4 (.string ⟨#[]⟩) (.slice none 0 0) (.slice none 0 0)
            have HF2 : Hid _ := hF2
            clear hF1 hF2
            have hni : ((1 + (cn : Int) + 1 != (la : Int))) = true := by rw [bne, Bool.not_eq_true', beq_eq_false_iff_ne]; omega
            clear hn
            go_wp2
            refine bodyPost_ret (v := .tuple #[.agg #[.string ⟨#[]⟩, .slice none 0 0, .slice none 0 0], .bool false, .int .i64 (1 + (cn : Int) + 1)]) (by simp [results, Try.results27, go_sem, r0, r1, r2]) rfl ⟨_, _, _, by rw [HK.out.1, HK.out.2, show ((2 + cn : Nat) : Int) = 1 + (cn : Int) + 1 by omega], HPO.out _ _ _ _ (fun h => by rw [HK.out.1] at h; cases h) (fun _ => ⟨rfl, rfl, rfl⟩) HF2.out⟩

end Go.Proofs.Ytokfiflflcfidaa
