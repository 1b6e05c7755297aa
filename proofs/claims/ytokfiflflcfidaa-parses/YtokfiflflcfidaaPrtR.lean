import Derived.Test.YtokfiflflcfidaaRows
import Derived.Test.YtokfiflflcfidaaWshR
import Derived.Test.YtokfiflflcfidaaPrtM
import Derived.Test.YtokfiflflcfidaaSndT
import Derived.WalkKit
import Derived.WalkSpells
import Derived.WalkLawsBesides
import Derived.Lib.SmallJoins
namespace Go.Proofs.Ytokfiflflcfidaa
open Go.RowKit

theorem szD (S : ByteArray) : S.data.toList.length = S.size := by simp
theorem by_of {S : ByteArray} {l : List UInt8} (h : S.data.toList = l) : S = ⟨l.toArray⟩ := by
  obtain ⟨d⟩ := S
  congr 1
  apply Array.toList_inj.1
  rw [h]
theorem titleL_len (nm : List UInt8) : (titleL nm).length = nm.length + 8 := by simp [titleL]

set_option maxRecDepth 100000 in
set_option maxHeartbeats 1600000 in
/-- the document's Print of a sound test -/
theorem rprint_any (nv : ByteArray) (cv wv : Value) (code : List (List Q4)) (want : List Q4) (lo hi : Nat) (w : World) (hC : Rd44 lo hi w cv code) (hW : Rd4 lo hi w wv want) (hhi : hi ≤ w.heap.size)
    (hS : sndT nv.data.toList code want = true) :
    Calls Try.prog 11 #[.agg #[.string nv, cv, wv]] w fun r w' => r = .returned (.string ⟨(printL nv.data.toList code want).toArray⟩) ∧ Below w.heap.size w w' := by
  obtain ⟨ca, cc, rfl, hC⟩ := hC
  obtain ⟨wa, wc, rfl, hW⟩ := hW
  have HC : Hid _ := hC
  have HW : Hid _ := hW
  have HFIN : Hid (printL nv.data.toList code want = titleL nv.data.toList ++ codeL code code.length ++ [119, 97, 110, 116] ++ wantL want want.length ++ [10]) := rfl
  unfold sndT at hS
  simp only [Bool.and_eq_true, decide_eq_true_eq] at hS
  obtain ⟨⟨⟨⟨⟨⟨h1, _⟩, h2⟩, h3⟩, _⟩, h4⟩, h5⟩ := hS
  rw [szD] at h1
  have HROWS : Hid (∀ k : Nat, k < code.length → (code[k]?.getD []).length ≤ 32 ∧ ∀ x ∈ code[k]?.getD [], sndI x = true) := fun k hk => by
    have := List.all_eq_true.1 h4 code[k] (List.getElem_mem hk)
    unfold sndRow at this
    simp only [Bool.and_eq_true, decide_eq_true_eq] at this
    simp only [List.getElem?_eq_getElem hk, Option.getD_some]
    exact ⟨this.1.2, fun x hx => List.all_eq_true.1 this.2 x hx⟩
  have HR32 : Hid (∀ k : Nat, (code[k]?.getD []).length ≤ 32) := fun k => by
    by_cases hk : k < code.length
    · exact (HROWS.out k hk).1
    · simp [hk]
  have HWS : Hid (∀ j : Nat, j < want.length → sndK code.length (want[j]?.getD q0) = true) := fun j hj => by
    rw [List.getElem?_eq_getElem hj]
    exact List.all_eq_true.1 h5 _ (List.getElem_mem hj)
  obtain ⟨P, hP⟩ : ∃ P, printL nv.data.toList code want = P := ⟨_, rfl⟩
  rw [hP] at HFIN ⊢
  obtain ⟨cn, hcn⟩ : ∃ n, code.length = n := ⟨_, rfl⟩
  obtain ⟨wn, hwn⟩ : ∃ n, want.length = n := ⟨_, rfl⟩
  rw [hcn] at HC HFIN HROWS HWS h2 ⊢
  rw [hwn] at HW HFIN HWS h3 ⊢
  have HCN : Hid _ := hcn
  have HCL : Hid (∀ k : Nat, k ≤ cn → (titleL nv.data.toList ++ codeL code k).length ≤ 4000) := fun k hk => by
    rw [List.length_append, titleL_len, szD]
    have := codeL_len code HR32.out k
    omega
  clear hC hW h4 h5 hP hcn hwn
  go_enter Try.func11, Try.ntmps11
  go_wp2
  go_loopw [3, 4] (fun s i wr => ∃ k : Nat, k ≤ cn ∧ i = .int .i64 k ∧ (∃ S : ByteArray, s = .string S ∧ S.data.toList = titleL nv.data.toList ++ codeL code k) ∧ BInv 25 w wr (.string nv) (.slice ca cn cc) (.slice wa wn wc)) (fun _ i _ => cn - (intOf i).toNat)
  case atStart => exact ⟨0, Nat.zero_le _, rfl, ⟨_, rfl, by rw [Joins.data_append, Joins.data_append]; simp [titleL, codeL]⟩, BInv.init _ _ _ _ _⟩
  case round =>
    rename World => wo
    obtain ⟨k, hk, rfl, ⟨Sx, rfl, hSx⟩, hI⟩ := hrel
    have c1 := hI.c1
    have hsz := hI.sz
    have HI : Hid _ := hI
    have HSX : Hid _ := hSx
    have hss : Sx.size ≤ 4000 := by rw [← szD, hSx]; exact HCL.out k hk
    clear hI hSx
    by_cases hlt : k < cn
    · obtain ⟨cb, co, vk, rfl, hcl, hch, hcell, hrow⟩ := HC.out k hlt
      have hcb : cb < w.heap.size := by omega
      obtain ⟨ra, rc, rfl, hrow⟩ := hrow
      have HROW : Hid _ := hrow
      have hck := (HI.out.below.cell (p := ⟨cb, co + k, none⟩) hcb).trans hcell
      have hcbo : cb < wo.heap.size := by omega
      have HCS : Hid (codeL code (k + 1) = codeL code k ++ (headL k ++ rowL (code[k]?.getD []) (code[k]?.getD []).length ++ [10])) := rfl
      have HRW : Hid _ := HROWS.out k hlt
      have hk16 : k < 16 := by omega
      have HDG : Hid (∀ u, Calls Try.prog 24 #[.int .i64 k] u fun r w' => r = .returned (.string ⟨#[dgN k]⟩) ∧ Below u.heap.size u w') := fun u => digit_any k hk16 u
      have HHD : Hid (headL k = [80, dgN k, 58]) := rfl
      clear hrow hcell
      generalize code[k]?.getD [] = row at *
      obtain ⟨rn, hrn⟩ : ∃ n, row.length = n := ⟨_, rfl⟩
      rw [hrn] at HROW HCS HRW hck
      have HRN : Hid _ := hrn
      have hr32 := HRW.out.1
      generalize headL k = hd at *
      generalize dgN k = yk at *
      obtain ⟨pre, hpre⟩ : ∃ x, titleL nv.data.toList ++ codeL code k = x := ⟨_, rfl⟩
      have HPRE : Hid _ := hpre
      rw [hpre] at HSX
      clear hrn hpre
      go_wp2_with (go_at_call 24; refine Calls.mono (HDG.out _) ?_; rintro r wd ⟨rfl, hbd⟩; have d1 := (hbd.cell (p := ⟨w.heap.size, 1, none⟩) hsz).trans c1; have d2 := (hbd.cell (p := ⟨cb, co + k, none⟩) hcbo).trans hck; have hsd := hbd.size; have HID : Hid _ := HI.out.kept hbd; clear hbd c1 hck)
      have HLJ : Hid (∀ j : Nat, j ≤ rn → (pre ++ hd ++ rowL row j).length ≤ 4400) := fun j hj => by
        have h1 := rowL_len row j
        rw [List.length_append, List.length_append, HHD.out, ← HSX.out, szD]
        simp only [List.length_cons, List.length_nil]
        omega
      have HSJ : Hid ((Sx ++ ⟨#[80]⟩ ++ ⟨#[yk]⟩ ++ ⟨#[58]⟩).data.toList = pre ++ hd ++ rowL row 0) := by
        show _ = _
        rw [Joins.data_append, Joins.data_append, Joins.data_append, HSX.out, HHD.out]
        simp [rowL]
      go_loopw [3, 5] (fun s i wr => ∃ j : Nat, j ≤ rn ∧ i = .int .i64 j ∧ (∃ S : ByteArray, s = .string S ∧ S.data.toList = pre ++ hd ++ rowL row j) ∧ Below wd.heap.size wd wr) (fun _ i _ => rn - (intOf i).toNat)
      case atStart => exact ⟨0, Nat.zero_le _, rfl, ⟨_, rfl, HSJ.out⟩, Below.refl _ _⟩
      case round =>
        obtain ⟨j, hj, rfl, ⟨Sj, rfl, hSj⟩, hbi⟩ := hrel
        have e1 := (hbi.cell (p := ⟨w.heap.size, 1, none⟩) (show w.heap.size < wd.heap.size by omega)).trans d1
        have e2 := (hbi.cell (p := ⟨cb, co + k, none⟩) (show cb < wd.heap.size by omega)).trans d2
        have hsi := hbi.size
        have hssj : Sj.size ≤ 4400 := by rw [← szD, hSj]; exact HLJ.out j hj
        have HBI : Hid (Below wd.heap.size wd wr) := hbi
        have HSV : Hid _ := hSj
        clear hbi hSj d1 d2
        by_cases hjl : j < rn
        · obtain ⟨rb, ro, rfl, hrlo, hrhi, hat⟩ := HROW.out j hjl
          have hrbo : rb < wd.heap.size := by omega
          have hrbw : rb < w.heap.size := by omega
          have hrbr : rb < wr.heap.size := by omega
          have x0 := ((HBI.out.cell (p := ⟨rb, ro + j * 4, none⟩) hrbo).trans ((HID.out.below.cell (p := ⟨rb, ro + j * 4, none⟩) hrbw).trans hat.f0))
          have x1 := ((HBI.out.cell (p := ⟨rb, ro + j * 4 + 1, none⟩) hrbo).trans ((HID.out.below.cell (p := ⟨rb, ro + j * 4 + 1, none⟩) hrbw).trans hat.f1))
          have x2 := ((HBI.out.cell (p := ⟨rb, ro + j * 4 + 2, none⟩) hrbo).trans ((HID.out.below.cell (p := ⟨rb, ro + j * 4 + 2, none⟩) hrbw).trans hat.f2))
          have x3 := ((HBI.out.cell (p := ⟨rb, ro + j * 4 + 3, none⟩) hrbo).trans ((HID.out.below.cell (p := ⟨rb, ro + j * 4 + 3, none⟩) hrbw).trans hat.f3))
          have HSN : Hid (rowL row (j + 1) = rowL row j ++ 32 :: wordL (row[j]?.getD q0)) := rfl
          have HSI : Hid (sndI (row[j]?.getD q0) = true) := HRW.out.2 _ (by
            have hh : j < row.length := by rw [HRN.out]; exact hjl
            rw [List.getElem?_eq_getElem hh]
            exact List.getElem_mem hh)
          have HWL : Hid _ := wordL_len (row[j]?.getD q0)
          clear hat
          generalize row[j]?.getD q0 = x at *
          have HWD : Hid _ := fun wx => word_any x HSI.out wx
          have hws : (⟨(wordL x).toArray⟩ : ByteArray).size ≤ 5 := by rw [← szD]; exact HWL.out
          have HWE : Hid ((⟨(wordL x).toArray⟩ : ByteArray).data.toList = wordL x) := rfl
          generalize (⟨(wordL x).toArray⟩ : ByteArray) = wb at *
          go_wp2_with (go_at_call 25; refine Calls.mono (HWD.out _) ?_; rintro r w5 ⟨rfl, hb5⟩; have HB5 : Hid (Below wd.heap.size wd w5) := HBI.out.trans (hb5.mono hsi); clear hb5 x0 x1 x2 x3 e1 e2)
          go_roundw
          case rel => exact ⟨j + 1, by omega, by go_num, ⟨_, rfl, by rw [HSN.out, Joins.data_append, Joins.data_append, HSV.out, HWE.out]; simp⟩, HB5.out⟩
          case measure => simp [intOf]; omega
        · have hje : j = rn := by omega
          have HJE : Hid _ := hje
          clear hje
          go_wp2
          go_roundw
          case rel => exact ⟨k + 1, by omega, by go_num, ⟨_, rfl, by rw [HCS.out, ← List.append_assoc, HPRE.out, Joins.data_append, HSV.out, HJE.out]; simp⟩, HID.out.kept HBI.out⟩
          case measure => simp [intOf]; omega
    · have hke : k = cn := by omega
      have HKE : Hid _ := hke
      rw [HKE.out] at HSX
      obtain ⟨pre, hpre⟩ : ∃ x, titleL nv.data.toList ++ codeL code cn = x := ⟨_, rfl⟩
      rw [hpre] at HSX HFIN
      have HLJ : Hid (∀ j : Nat, j ≤ wn → (pre ++ [119, 97, 110, 116] ++ wantL want j).length ≤ 4400) := fun j hj => by
        have h1 := wantL_len want j
        rw [List.length_append, List.length_append, ← HSX.out, szD]
        simp only [List.length_cons, List.length_nil]
        omega
      have HSJ : Hid ((Sx ++ ⟨#[119, 97, 110, 116]⟩).data.toList = pre ++ [119, 97, 110, 116] ++ wantL want 0) := by
        show _ = _
        rw [Joins.data_append, HSX.out]
        simp [wantL]
      clear hke hpre
      go_wp2
      go_loopw [3, 6] (fun s i wr => ∃ j : Nat, j ≤ wn ∧ i = .int .i64 j ∧ (∃ S : ByteArray, s = .string S ∧ S.data.toList = pre ++ [119, 97, 110, 116] ++ wantL want j) ∧ BInv 25 w wr (.string nv) (.slice ca cn cc) (.slice wa wn wc)) (fun _ i _ => wn - (intOf i).toNat)
      case atStart => exact ⟨0, Nat.zero_le _, rfl, ⟨_, rfl, HSJ.out⟩, HI.out⟩
      case round =>
        obtain ⟨j, hj, rfl, ⟨Sj, rfl, hSj⟩, hIj⟩ := hrel
        have c2 := hIj.c2
        have hszj := hIj.sz
        have hssj : Sj.size ≤ 4400 := by rw [← szD, hSj]; exact HLJ.out j hj
        have HIJ : Hid _ := hIj
        have HSV : Hid _ := hSj
        clear hIj hSj
        by_cases hjl : j < wn
        · obtain ⟨rb, ro, rfl, hrlo, hrhi, hat⟩ := HW.out j hjl
          have hrbw : rb < w.heap.size := by omega
          have hrbr : rb < wr.heap.size := by omega
          have x0 := (HIJ.out.below.cell (p := ⟨rb, ro + j * 4, none⟩) hrbw).trans hat.f0
          have x1 := (HIJ.out.below.cell (p := ⟨rb, ro + j * 4 + 1, none⟩) hrbw).trans hat.f1
          have x2 := (HIJ.out.below.cell (p := ⟨rb, ro + j * 4 + 2, none⟩) hrbw).trans hat.f2
          have x3 := (HIJ.out.below.cell (p := ⟨rb, ro + j * 4 + 3, none⟩) hrbw).trans hat.f3
          have HSN : Hid (wantL want (j + 1) = wantL want j ++ 32 :: wishL (want[j]?.getD q0)) := rfl
          have HSI : Hid (sndK cn (want[j]?.getD q0) = true) := HWS.out j hjl
          have HWL : Hid _ := wishL_len (want[j]?.getD q0)
          clear hat
          generalize want[j]?.getD q0 = x at *
          have HWD : Hid _ := fun wx => wish_any x cn h2 HSI.out wx
          have hws : (⟨(wishL x).toArray⟩ : ByteArray).size ≤ 6 := by rw [← szD]; exact HWL.out
          have HWE : Hid ((⟨(wishL x).toArray⟩ : ByteArray).data.toList = wishL x) := rfl
          generalize (⟨(wishL x).toArray⟩ : ByteArray) = wb at *
          go_wp2_with (go_at_call 26; refine Calls.mono (HWD.out _) ?_; rintro r w5 ⟨rfl, hb5⟩; have HI5 : Hid _ := HIJ.out.kept hb5; clear hb5 x0 x1 x2 x3 c2)
          go_roundw
          case rel => exact ⟨j + 1, by omega, by go_num, ⟨_, rfl, by rw [HSN.out, Joins.data_append, Joins.data_append, HSV.out, HWE.out]; simp⟩, HI5.out⟩
          case measure => simp [intOf]; omega
        · have hje : j = wn := by omega
          have HJE : Hid _ := hje
          clear hje
          go_wp2
          go_ret
          refine ⟨?_, HIJ.out.below⟩
          have hF : (Sj ++ ⟨#[10]⟩ : ByteArray) = ⟨P.toArray⟩ := by_of (by rw [Joins.data_append, HSV.out, HJE.out, HFIN.out])
          show Ending.returned (.string (Sj ++ ⟨#[10]⟩)) = _
          rw [hF]

end Go.Proofs.Ytokfiflflcfidaa
