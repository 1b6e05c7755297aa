import Derived.Test.YtokfiflflcfidaaRows
import Derived.Test.YtokfiflflcfidaaPsB
import Derived.Test.YtokfiflflcfidaaPrtW
import Derived.Test.YtokfiflflcfidaaMadW
import Derived.WalkKit
import Derived.WalkSpells
import Derived.WalkLawsBesides
namespace Go.Proofs.Ytokfiflflcfidaa
open Go.RowKit

/-- v reads as the texts l, not none -/
def TxRd (w : World) (v : Value) (l : List (List UInt8)) : Prop :=
  ∃ b off cap, v = .slice (some ⟨b, off, none⟩) l.length cap ∧ l.length ≤ cap ∧ b < w.heap.size ∧ ∀ i, i < l.length → w.cell? ⟨b, off + i, none⟩ = some (.string ⟨(l[i]?.getD []).toArray⟩)
theorem OwnS.txrd {w : World} {base T : Nat} {v : Value} {l : List (List UInt8)} (h : OwnS w base T v l) (hl : 0 < l.length) : TxRd w v l := by
  have h' : w.ownsRow base T 1 v (textsV l).length (textsV l) := h
  rcases h.2 with ⟨_, hn⟩ | ⟨g, cap, cur, rfl, hbg, hgg, hcap, _⟩
  · rw [textsV_length] at hn; omega
  · refine ⟨g, 0, cap, by rw [textsV_length], by rw [textsV_length] at hcap; exact hcap, (Array.getElem?_eq_some_iff.1 hgg).1, fun i hi => ?_⟩
    have := h'.cells (g := g) rfl i (.string ⟨(l[i]?.getD []).toArray⟩) (by simp [textsV, hi])
    have hadd : (⟨g, 0, none⟩ : Addr).add i = ⟨g, 0 + i, none⟩ := by unfold Addr.add; split <;> simp_all
    rw [hadd] at this
    exact this
theorem TxRd.kept {w w' : World} {v : Value} {l : List (List UInt8)} (h : TxRd w v l) (hb : Below w.heap.size w w') : TxRd w' v l := by
  obtain ⟨b, off, cap, rfl, h0, h1, h2⟩ := h
  exact ⟨b, off, cap, rfl, h0, Nat.lt_of_lt_of_le h1 hb.size, fun i hi => (hb.cell (p := ⟨b, _, none⟩) h1).trans (h2 i hi)⟩
theorem Try.nilBack (w : World) : (convert 88 9 (.slice none 0 0)).run Try.prog w = .ok (.string ⟨#[]⟩) w := by kernel_rfl
theorem Txt.back {w0 wr : World} {v : Value} {l : List UInt8} (h : Txt w0 wr 5 v l) : (convert 88 9 v).run Try.prog wr = .ok (.string ⟨l.toArray⟩) wr := by
  rcases h.own.2 with ⟨rfl, hn⟩ | ⟨g, cap, cur, rfl, hbg, hgg, _⟩
  · rw [byV_length] at hn
    have : l = [] := List.eq_nil_of_length_eq_zero hn
    subst this
    exact Try.nilBack wr
  · have h' := h.own
    have := run_convert_bytes_back (P := Try.prog) wr 88 9 5 ⟨g, 0, none⟩ cap l Try.underlying88 Try.underlying5 Try.underlying9 (fun k hk => h'.cells (g := g) rfl k _ (by simp [byV, hk]))
    rw [byV_length]
    exact this

set_option maxRecDepth 100000 in
set_option maxHeartbeats 800000 in
theorem readNameLine_any (s : ByteArray) (hs : s.size ≤ 900000) (w : World) :
    Calls Try.prog 49 #[.string s] w fun r w' => r = .returned (.tuple #[.string ⟨(nmR s.data.toList).toArray⟩, .bool (nmB s.data.toList)]) ∧ Below w.heap.size w w' := by
  have HL : Hid (s.data.toList.length = s.size) := byP_len s
  have HBAD : Hid (nmOk s.data.toList = false → nmR s.data.toList = [] ∧ nmB s.data.toList = false) := fun h => ⟨by unfold nmR; rw [h]; rfl, by unfold nmB; rw [h]; rfl⟩
  by_cases h7 : s.size < 7
  · have h7i : (s.size : Int) < 7 := by omega
    have HV : Hid (nmR s.data.toList = [] ∧ nmB s.data.toList = false) := HBAD.out (by
      unfold nmOk
      rw [beq_eq_false_iff_ne]
      intro e
      have := congrArg List.length e
      rw [List.length_take, HL.out] at this
      simp [nmH] at this
      omega)
    clear h7
    go_enter Try.func49, Try.ntmps49
    go_wp2
    go_ret2
    exact ⟨by rw [HV.out.1, HV.out.2]; rfl, Below.refl _ _⟩
  · have h7i : ¬ ((s.size : Int) < 7) := by omega
    have HEX : Hid ((s.extract 0 7).data.toList = s.data.toList.take 7) := by show _ = _; rw [Lib.extract_data]; rfl
    cases hq : ((s.extract 0 7).toList == [108, 105, 116, 109, 117, 115, 32])
    · have HV : Hid (nmR s.data.toList = [] ∧ nmB s.data.toList = false) := HBAD.out (by
        rw [ByteArray.toList_eq, HEX.out] at hq
        exact hq)
      have hqn : ((s.extract 0 7).toList != [108, 105, 116, 109, 117, 115, 32]) = true := by rw [bne, hq]; rfl
      clear h7
      go_enter Try.func49, Try.ntmps49
      go_wp2
      go_ret2
      exact ⟨by rw [HV.out.1, HV.out.2]; rfl, Below.refl _ _⟩
    · have HV : Hid (nmR s.data.toList = s.data.toList.drop 7 ∧ nmB s.data.toList = sndN (s.data.toList.drop 7)) := by
        have h : nmOk s.data.toList = true := by
          rw [ByteArray.toList_eq, HEX.out] at hq
          exact hq
        exact ⟨by unfold nmR; rw [h]; rfl, by unfold nmB; rw [h]; rfl⟩
      have hqn : ((s.extract 0 7).toList != [108, 105, 116, 109, 117, 115, 32]) = false := by rw [bne, hq]; rfl
      go_enter Try.func49, Try.ntmps49
      go_wp2
      go_loopw [4, 5] (fun v i wr => ∃ n : Nat, 7 ≤ n ∧ n ≤ s.size ∧ i = .int .i64 n ∧ Txt w wr 5 v ((s.data.toList.take n).drop 7)) (fun _ i _ => s.size - (intOf i).toNat)
      case atStart => exact ⟨7, Nat.le_refl _, by omega, rfl, by rw [List.drop_eq_nil_of_le (by rw [List.length_take]; omega)]; exact Txt.nil _ _⟩
      case round =>
        obtain ⟨n, hn7, hn, rfl, hT⟩ := hrel
        have HT : Hid (Txt w wr 5 _ ((s.data.toList.take n).drop 7)) := hT
        have HPL : Hid (((s.data.toList.take n).drop 7).length ≤ 1000000) := by show _ ≤ _; rw [List.length_drop, List.length_take]; omega
        by_cases hlt : n < s.size
        · have hni : (n : Int) < (s.size : Int) := by omega
          have HN : Hid ((s.data.toList.take (n + 1)).drop 7 = (s.data.toList.take n).drop 7 ++ [s[n]'hlt]) := by
            show _ = _
            have hl : n < s.data.toList.length := by rw [HL.out]; exact hlt
            have hg := byP_at s n hlt
            rw [List.getElem?_eq_getElem hl] at hg
            rw [List.take_succ_eq_append_getElem hl, List.drop_append_of_le_length (by rw [List.length_take]; omega), Option.some.inj hg]
          clear hT
          go_wp2_with (at_builtin; refine wpList_pushY rfl _ _ 88 rfl w 5 Try.underlying88 Try.infoByteP _ _ (s[n]'hlt) _ rfl (by rfl) (by rfl) HT.out HPL.out ?_; intro v2 w2 h2 _; have HT2 : Hid (Txt w w2 5 v2 ((s.data.toList.take n).drop 7 ++ [s[n]'hlt])) := h2; clear h2 HT)
          go_roundw
          case rel => exact ⟨n + 1, by omega, by omega, by go_num, by rw [HN.out]; exact HT2.out⟩
          case measure => simp [intOf]; omega
        · have hne : n = s.size := by omega
          subst hne
          have HTA : Hid (s.data.toList.take s.size = s.data.toList) := List.take_of_length_le (by rw [HL.out]; exact Nat.le_refl _)
          rw [HTA.out] at hT HT HPL
          have hcv := hT.back
          have HNS : Hid _ := fun wx => nameIsSound_any ⟨(s.data.toList.drop 7).toArray⟩ wx (by rw [by_size]; have := HPL.out; omega)
          have HB : Hid (Below w.heap.size w wr) := hT.below
          obtain ⟨va, vn, vc, hv⟩ : ∃ a n c, u4 = .slice a n c := by
            rcases hT.own.2 with ⟨h, _⟩ | ⟨g, cap, cur, h, _⟩
            · exact ⟨_, _, _, h⟩
            · exact ⟨_, _, _, h⟩
          subst hv
          have hda : (⟨(s.data.toList.drop 7).toArray⟩ : ByteArray).data.toList = s.data.toList.drop 7 := by_data _
          have HNS2 : Hid (∀ wx, Calls Try.prog 41 #[.string ⟨(s.data.toList.drop 7).toArray⟩] wx fun r w' => r = .returned (.bool (sndN (s.data.toList.drop 7))) ∧ ∃ m, w' = wx.drewN m) := fun wx => by
            have h := HNS.out wx
            rw [hda] at h
            exact h
          obtain ⟨tb, htb⟩ : ∃ t, (⟨(s.data.toList.drop 7).toArray⟩ : ByteArray) = t := ⟨_, rfl⟩
          have HTB : Hid _ := htb
          rw [htb] at hcv HNS2
          clear hT HNS hda htb
          generalize sndN (s.data.toList.drop 7) = ok at *
          go_wp2_with (go_at_call 41; refine Calls.mono (HNS2.out _) ?_; rintro r w3 ⟨rfl, m3, rfl⟩)
          go_ret2
          exact ⟨by rw [HV.out.1, HV.out.2, HTB.out]; rfl, below_drewN HB.out _⟩

theorem own4_kept {w w' : World} {base T : Nat} {v : Value} {l : List Q4} (h : Own4 w base T v l) (hb : Below w.heap.size w w') : Own4 w' base T v l := ownsRow_kept h hb
theorem own4_alloc {w : World} {base T : Nat} {v : Value} {l : List Q4} (h : Own4 w base T v l) (o : Obj) : Own4 (w.alloc o) base T v l := own4_kept h ((Below.refl _ _).alloc (Nat.le_refl _) o)

set_option maxRecDepth 100000 in
set_option maxHeartbeats 1600000 in
theorem readThreadLine_any (s : ByteArray) (hs : s.size ≤ 900000) (k : Nat) (hk : k < 16) (w : World) :
    Calls Try.prog 67 #[.string s, .int .i64 k] w fun r w' => ∃ v, r = .returned (.tuple #[v, .bool (thrB k s.data.toList)]) ∧ Own4 w' w.heap.size 55 v (thrR k s.data.toList) ∧ Below w.heap.size w w' := by
  have HWB : Hid (∀ i : Nat, ((spS 32 s.data.toList)[i]?.getD []).length ≤ 900000) := fun i => by
    by_cases hi : i < (spS 32 s.data.toList).length
    · have := spS_mem (getD_mem [] hi)
      rw [byP_len] at this
      omega
    · rw [List.getElem?_eq_none (by omega)]; simp
  have HLN : Hid _ := spS_len 32 s.data.toList
  have HWL : Hid ((spS 32 s.data.toList).length ≤ 1000000) := by
    show _ ≤ _
    have := HLN.out.2
    rw [byP_len] at this
    omega
  have HBAD : Hid (thB k (spS 32 s.data.toList) = false → thrR k s.data.toList = [] ∧ thrB k s.data.toList = false) := fun h => ⟨by unfold thrR; rw [h]; rfl, by unfold thrB; rw [h]; rfl⟩
  have HGOOD : Hid (thB k (spS 32 s.data.toList) = true → thrR k s.data.toList = thL (spS 32 s.data.toList) ∧ thrB k s.data.toList = sndRow (thL (spS 32 s.data.toList))) := fun h => ⟨by unfold thrR; rw [h]; rfl, by unfold thrB; rw [h]; rfl⟩
  have HSP : Hid _ := split_any s (by omega) 32 w
  have HTH : Hid _ := fun wx => threadHead_any k hk wx
  have HTB : Hid (thB k (spS 32 s.data.toList) = (((spS 32 s.data.toList)[0]?.getD [] == headL k) && ((spS 32 s.data.toList).drop 1).all insB)) := rfl
  have HTL : Hid (thL (spS 32 s.data.toList) = ((spS 32 s.data.toList).drop 1).map insR) := rfl
  obtain ⟨R, hR⟩ : ∃ R, thrR k s.data.toList = R := ⟨_, rfl⟩
  obtain ⟨B, hB⟩ : ∃ B, thrB k s.data.toList = B := ⟨_, rfl⟩
  rw [hR, hB] at HBAD HGOOD
  rw [hR, hB]
  generalize spS 32 s.data.toList = ws at *
  go_enter Try.func67, Try.ntmps67
  go_wp2_with fail
  refine Calls.mono HSP.out ?_
  rintro r w1 ⟨v1, rfl, hO1, hb1⟩
  have hX1 := OwnS.txrd hO1 HLN.out.1
  have HX1 : Hid (TxRd w1 v1 ws) := hX1
  have HB1 : Hid (Below w.heap.size w w1) := hb1
  clear hO1 hb1 hX1
  go_wp2_with fail
  refine Calls.mono (HTH.out _) ?_
  rintro r w2 ⟨rfl, hb2⟩
  have hX2 : TxRd w2 v1 ws := TxRd.kept HX1.out hb2
  have HB2 : Hid (Below w.heap.size w w2) := HB1.out.trans (hb2.mono HB1.out.size)
  obtain ⟨gb, go, gc, rfl, _, hgb, hcell⟩ := hX2
  have HCELL : Hid _ := hcell
  obtain ⟨wn, hwn⟩ : ∃ n, ws.length = n := ⟨_, rfl⟩
  have HWN : Hid _ := hwn
  rw [hwn] at HCELL HLN HWL ⊢
  have hwl := HWL.out
  clear hb2 hcell hwn HX1
  go_wp2
  go_loopw [8, 19] (fun v i wr => ∃ j : Nat, j ≤ wn ∧ i = .int .i64 j ∧ (0 < j → ws[0]?.getD [] = headL k) ∧ (∀ i, 1 ≤ i → i < j → insB (ws[i]?.getD []) = true) ∧ Own4 wr w2.heap.size 55 v (((ws.take j).drop 1).map insR) ∧ Below w2.heap.size w2 wr) (fun _ i _ => wn - (intOf i).toNat)
  case atStart => exact ⟨0, Nat.zero_le _, rfl, fun h => absurd h (by omega), fun i h1 h2 => absurd h2 (by omega), by rw [upTo_zero insR ws 0 (by omega)]; exact Own4.nil _ _ _, Below.refl _ _⟩
  case round =>
    obtain ⟨j, hj, rfl, hhd, hall, hO, hb⟩ := hrel
    have HHD : Hid _ := hhd
    have HALL : Hid _ := hall
    have HO : Hid (Own4 wr w2.heap.size 55 _ (((ws.take j).drop 1).map insR)) := hO
    have HB : Hid (Below w2.heap.size w2 wr) := hb
    have hsz := hb.size
    clear hhd hall hO hb
    by_cases hlt : j < wn
    · have hc := (HB.out.cell (p := ⟨gb, go + j, none⟩) hgb).trans (HCELL.out j hlt)
      have hgw : gb < wr.heap.size := by omega
      by_cases hj0 : j = 0
      · have hj0i : ((j : Int) == 0) = true := by rw [beq_iff_eq]; omega
        have HJ0 : Hid _ := hj0
        have HW0 : Hid (ws[j]?.getD [] = ws[0]?.getD []) := by show _ = _; rw [HJ0.out]
        rw [HW0.out] at hc
        cases hq : ((⟨(ws[0]?.getD []).toArray⟩ : ByteArray).toList == (⟨(headL k).toArray⟩ : ByteArray).toList)
        · have HF : Hid (R = [] ∧ B = false) := HBAD.out (by
            rw [HTB.out, show (ws[0]?.getD [] == headL k) = false from ?_]
            · rfl
            · rw [eqS, by_data, by_data] at hq
              rw [beq_eq_false_iff_ne]
              exact of_decide_eq_false hq)
          have hqn : ((⟨(ws[0]?.getD []).toArray⟩ : ByteArray).toList != (⟨(headL k).toArray⟩ : ByteArray).toList) = true := by rw [bne, hq]; rfl
          generalize (⟨(ws[0]?.getD []).toArray⟩ : ByteArray) = wd at *
          generalize (⟨(headL k).toArray⟩ : ByteArray) = hd at *
          clear hj0
          go_wp2
          go_ret2
          exact ⟨_, by rw [HF.out.2]; rfl, by rw [HF.out.1]; exact Own4.nil _ _ _, HB2.out.trans (HB.out.mono HB2.out.size)⟩
        · have HE : Hid (ws[0]?.getD [] = headL k) := by
            show _ = _
            rw [eqS, by_data, by_data] at hq
            exact of_decide_eq_true hq
          have hqn : ((⟨(ws[0]?.getD []).toArray⟩ : ByteArray).toList != (⟨(headL k).toArray⟩ : ByteArray).toList) = false := by rw [bne, hq]; rfl
          generalize (⟨(ws[0]?.getD []).toArray⟩ : ByteArray) = wd at *
          generalize (⟨(headL k).toArray⟩ : ByteArray) = hd at *
          clear hj0
          go_wp2
          go_roundw
          case rel => exact ⟨j + 1, by omega, by go_num, fun _ => HE.out, fun i h1 h2 => absurd h2 (by have := HJ0.out; omega), by rw [upTo_zero insR ws (j + 1) (by have := HJ0.out; omega), ← upTo_zero insR ws j (by have := HJ0.out; omega)]; exact HO.out, HB.out⟩
          case measure => simp [intOf]; omega
      · have hj0i : ((j : Int) == 0) = false := by rw [beq_eq_false_iff_ne]; omega
        have HRI : Hid _ := fun wx => readIns_any ⟨(ws[j]?.getD []).toArray⟩ (by rw [by_size]; have := HWB.out j; omega) wx
        have hda : (⟨(ws[j]?.getD []).toArray⟩ : ByteArray).data.toList = ws[j]?.getD [] := by_data _
        rw [hda] at HRI
        have HUP : Hid _ := upTo_succ insR ws (show 1 ≤ j by omega) (by rw [HWN.out]; exact hlt)
        have HPL : Hid ((((ws.take j).drop 1).map insR).length ≤ 1000000000000) := by show _ ≤ _; rw [List.length_map, List.length_drop, List.length_take]; omega
        have HAF : Hid (insB (ws[j]?.getD []) = false → R = [] ∧ B = false) := fun h => HBAD.out (by rw [HTB.out, all_fails (by omega) (by rw [HWN.out]; exact hlt) h]; simp)
        clear hda
        generalize (⟨(ws[j]?.getD []).toArray⟩ : ByteArray) = wd at *
        obtain ⟨x, hx⟩ : ∃ x, insR (ws[j]?.getD []) = x := ⟨_, rfl⟩
        obtain ⟨ok, hok⟩ : ∃ b, insB (ws[j]?.getD []) = b := ⟨_, rfl⟩
        have HOK : Hid _ := hok
        rw [hx, hok] at HRI
        rw [hx] at HUP
        rw [hok] at HAF
        clear hx hok
        cases ok
        · have HAG : Hid (R = [] ∧ B = false) := HAF.out rfl
          clear HAF
          go_wp2_with (go_at_call 83; refine Calls.mono (HRI.out _) ?_; rintro r w3 ⟨rfl, hb3⟩; have HB3 : Hid (Below w2.heap.size w2 w3) := HB.out.trans (hb3.mono hsz); clear hb3 hc)
          go_ret2
          exact ⟨_, by rw [HAG.out.2]; rfl, by rw [HAG.out.1]; exact Own4.nil _ _ _, HB2.out.trans ((HB3.out.alloc HB3.out.size _).mono HB2.out.size)⟩
        · go_wp2_with (first | (go_at_call 83; refine Calls.mono (HRI.out _) ?_; rintro r w3 ⟨rfl, hb3⟩; have HB3 : Hid (Below w2.heap.size w2 w3) := HB.out.trans (hb3.mono hsz); have HO3 : Hid (∀ o, Own4 (w3.alloc o) w2.heap.size 55 u8 (((ws.take j).drop 1).map insR)) := (fun o => own4_alloc (own4_kept HO.out hb3) o); clear hb3 hc) | (at_builtin; refine wpList_push4 rfl _ _ 51 rfl w2.heap.size 55 Try.underlying51 Try.infoMIns _ _ x (by rfl) (by simp [Act.eval]) (HO3.out _) HPL.out (by have := HB3.out.size; simp; omega) ?_; intro v4 w4 h4 g4; have HO4 : Hid (Own4 w4 w2.heap.size 55 v4 (((ws.take j).drop 1).map insR ++ [x])) := h4; have HB4 : Hid (Below w2.heap.size w2 w4) := g4.below (HB3.out.alloc HB3.out.size _) (by have := HB3.out.size; simp; omega) (HO3.out _); clear h4 g4 HO3))
          go_roundw
          case rel => exact ⟨j + 1, by omega, by go_num, fun _ => HHD.out (by omega), fun i h1 h2 => by
            by_cases hij : i = j
            · subst hij; exact HOK.out
            · exact HALL.out i h1 (by omega), by rw [HUP.out]; exact HO4.out, HB4.out⟩
          case measure => simp [intOf]; omega
    · have hje : j = wn := by omega
      have HG : Hid (R = thL ws ∧ B = sndRow (thL ws)) := HGOOD.out (by
        rw [HTB.out, all_from (fun i h1 h2 => HALL.out i h1 (by have := HWN.out; omega)), HHD.out (by have := HLN.out.1; omega)]
        simp)
      have HT : Hid (((ws.take j).drop 1).map insR = thL ws) := by
        show _ = _
        rw [HTL.out, List.take_of_length_le (by have := HWN.out; omega)]
      rw [HT.out] at HO
      have HCS : Hid _ := codeIsSound_any (thL ws) u8 w2.heap.size wr.heap.size wr (Own4.rd HO.out (Nat.le_refl _)) (Nat.le_refl _)
      obtain ⟨va, vc, hv⟩ := Own4.len HO.out
      obtain ⟨tn, htn⟩ : ∃ n, (thL ws).length = n := ⟨_, rfl⟩
      rw [htn] at hv
      subst hv
      clear hje htn
      go_wp2_with (go_at_call 42; refine Calls.mono HCS.out ?_; rintro r w5 ⟨rfl, hb5⟩; have HB5 : Hid (Below wr.heap.size wr w5) := hb5; clear hb5)
      go_ret2
      exact ⟨_, by rw [HG.out.2]; rfl, by rw [HG.out.1]; exact ownsRow_rebase (ownsRow_kept HO.out HB5.out) HB2.out.size, HB2.out.trans ((HB.out.trans (HB5.out.mono hsz)).mono HB2.out.size)⟩

set_option maxRecDepth 100000 in
set_option maxHeartbeats 1600000 in
theorem readWantLine_any (s : ByteArray) (hs : s.size ≤ 900000) (n : Nat) (w : World) :
    Calls Try.prog 51 #[.string s, .int .i64 n] w fun r w' => ∃ v, r = .returned (.tuple #[v, .bool (wntB n s.data.toList)]) ∧ Own4 w' w.heap.size 58 v (wntR s.data.toList) ∧ Below w.heap.size w w' := by
  have HWB : Hid (∀ i : Nat, ((spS 32 s.data.toList)[i]?.getD []).length ≤ 900000) := fun i => by
    by_cases hi : i < (spS 32 s.data.toList).length
    · have := spS_mem (getD_mem [] hi)
      rw [byP_len] at this
      omega
    · rw [List.getElem?_eq_none (by omega)]; simp
  have HLN : Hid _ := spS_len 32 s.data.toList
  have HWL : Hid ((spS 32 s.data.toList).length ≤ 1000000) := by
    show _ ≤ _
    have := HLN.out.2
    rw [byP_len] at this
    omega
  have HBAD : Hid (wtB (spS 32 s.data.toList) = false → wntR s.data.toList = [] ∧ wntB n s.data.toList = false) := fun h => ⟨by unfold wntR; rw [h]; rfl, by unfold wntB; rw [h]; rfl⟩
  have HGOOD : Hid (wtB (spS 32 s.data.toList) = true → wntR s.data.toList = wtL (spS 32 s.data.toList) ∧ wntB n s.data.toList = sndW n (wtL (spS 32 s.data.toList))) := fun h => ⟨by unfold wntR; rw [h]; rfl, by unfold wntB; rw [h]; rfl⟩
  have HSP : Hid _ := split_any s (by omega) 32 w
  have HTB : Hid (wtB (spS 32 s.data.toList) = (((spS 32 s.data.toList)[0]?.getD [] == wnH) && ((spS 32 s.data.toList).drop 1).all clmB)) := rfl
  have HTL : Hid (wtL (spS 32 s.data.toList) = ((spS 32 s.data.toList).drop 1).map clmR) := rfl
  obtain ⟨R, hR⟩ : ∃ R, wntR s.data.toList = R := ⟨_, rfl⟩
  obtain ⟨B, hB⟩ : ∃ B, wntB n s.data.toList = B := ⟨_, rfl⟩
  rw [hR, hB] at HBAD HGOOD
  rw [hR, hB]
  generalize spS 32 s.data.toList = ws at *
  go_enter Try.func51, Try.ntmps51
  go_wp2_with fail
  refine Calls.mono HSP.out ?_
  rintro r w2 ⟨v1, rfl, hO1, hb1⟩
  have hX1 := OwnS.txrd hO1 HLN.out.1
  have HX1 : Hid (TxRd w2 v1 ws) := hX1
  have HB1 : Hid (Below w.heap.size w w2) := hb1
  clear hO1 hb1 hX1
  have hX2 : TxRd w2 v1 ws := HX1.out
  have HB2 : Hid (Below w.heap.size w w2) := HB1.out
  obtain ⟨gb, go, gc, rfl, _, hgb, hcell⟩ := hX2
  have HCELL : Hid _ := hcell
  obtain ⟨wn, hwn⟩ : ∃ n, ws.length = n := ⟨_, rfl⟩
  have HWN : Hid _ := hwn
  rw [hwn] at HCELL HLN HWL ⊢
  have hwl := HWL.out
  clear hcell hwn HX1
  go_wp2
  go_loopw [7, 16] (fun v i wr => ∃ j : Nat, j ≤ wn ∧ i = .int .i64 j ∧ (0 < j → ws[0]?.getD [] = wnH) ∧ (∀ i, 1 ≤ i → i < j → clmB (ws[i]?.getD []) = true) ∧ Own4 wr w2.heap.size 58 v (((ws.take j).drop 1).map clmR) ∧ Below w2.heap.size w2 wr) (fun _ i _ => wn - (intOf i).toNat)
  case atStart => exact ⟨0, Nat.zero_le _, rfl, fun h => absurd h (by omega), fun i h1 h2 => absurd h2 (by omega), by rw [upTo_zero clmR ws 0 (by omega)]; exact Own4.nil _ _ _, Below.refl _ _⟩
  case round =>
    obtain ⟨j, hj, rfl, hhd, hall, hO, hb⟩ := hrel
    have HHD : Hid _ := hhd
    have HALL : Hid _ := hall
    have HO : Hid (Own4 wr w2.heap.size 58 _ (((ws.take j).drop 1).map clmR)) := hO
    have HB : Hid (Below w2.heap.size w2 wr) := hb
    have hsz := hb.size
    clear hhd hall hO hb
    by_cases hlt : j < wn
    · have hc := (HB.out.cell (p := ⟨gb, go + j, none⟩) hgb).trans (HCELL.out j hlt)
      have hgw : gb < wr.heap.size := by omega
      by_cases hj0 : j = 0
      · have hj0i : ((j : Int) == 0) = true := by rw [beq_iff_eq]; omega
        have HJ0 : Hid _ := hj0
        have HW0 : Hid (ws[j]?.getD [] = ws[0]?.getD []) := by show _ = _; rw [HJ0.out]
        rw [HW0.out] at hc
        cases hq : ((⟨(ws[0]?.getD []).toArray⟩ : ByteArray).toList == [119, 97, 110, 116])
        · have HF : Hid (R = [] ∧ B = false) := HBAD.out (by
            rw [HTB.out, show (ws[0]?.getD [] == wnH) = false from ?_]
            · rfl
            · rw [ByteArray.toList_eq, by_data] at hq
              exact hq)
          have hqn : ((⟨(ws[0]?.getD []).toArray⟩ : ByteArray).toList != [119, 97, 110, 116]) = true := by rw [bne, hq]; rfl
          generalize (⟨(ws[0]?.getD []).toArray⟩ : ByteArray) = wd at *
          clear hj0
          go_wp2
          go_ret2
          exact ⟨_, by rw [HF.out.2]; rfl, by rw [HF.out.1]; exact Own4.nil _ _ _, HB2.out.trans (HB.out.mono HB2.out.size)⟩
        · have HE : Hid (ws[0]?.getD [] = wnH) := by
            show _ = _
            rw [ByteArray.toList_eq, by_data, beq_iff_eq] at hq
            exact hq
          have hqn : ((⟨(ws[0]?.getD []).toArray⟩ : ByteArray).toList != [119, 97, 110, 116]) = false := by rw [bne, hq]; rfl
          generalize (⟨(ws[0]?.getD []).toArray⟩ : ByteArray) = wd at *
          clear hj0
          go_wp2
          go_roundw
          case rel => exact ⟨j + 1, by omega, by go_num, fun _ => HE.out, fun i h1 h2 => absurd h2 (by have := HJ0.out; omega), by rw [upTo_zero clmR ws (j + 1) (by have := HJ0.out; omega), ← upTo_zero clmR ws j (by have := HJ0.out; omega)]; exact HO.out, HB.out⟩
          case measure => simp [intOf]; omega
      · have hj0i : ((j : Int) == 0) = false := by rw [beq_eq_false_iff_ne]; omega
        have HRI : Hid _ := fun wx => readClaim_any ⟨(ws[j]?.getD []).toArray⟩ (by rw [by_size]; have := HWB.out j; omega) wx
        have hda : (⟨(ws[j]?.getD []).toArray⟩ : ByteArray).data.toList = ws[j]?.getD [] := by_data _
        rw [hda] at HRI
        have HUP : Hid _ := upTo_succ clmR ws (show 1 ≤ j by omega) (by rw [HWN.out]; exact hlt)
        have HPL : Hid ((((ws.take j).drop 1).map clmR).length ≤ 1000000000000) := by show _ ≤ _; rw [List.length_map, List.length_drop, List.length_take]; omega
        have HAF : Hid (clmB (ws[j]?.getD []) = false → R = [] ∧ B = false) := fun h => HBAD.out (by rw [HTB.out, all_fails (by omega) (by rw [HWN.out]; exact hlt) h]; simp)
        clear hda
        generalize (⟨(ws[j]?.getD []).toArray⟩ : ByteArray) = wd at *
        obtain ⟨x, hx⟩ : ∃ x, clmR (ws[j]?.getD []) = x := ⟨_, rfl⟩
        obtain ⟨ok, hok⟩ : ∃ b, clmB (ws[j]?.getD []) = b := ⟨_, rfl⟩
        have HOK : Hid _ := hok
        rw [hx, hok] at HRI
        rw [hx] at HUP
        rw [hok] at HAF
        clear hx hok
        cases ok
        · have HAG : Hid (R = [] ∧ B = false) := HAF.out rfl
          clear HAF
          go_wp2_with (go_at_call 68; refine Calls.mono (HRI.out _) ?_; rintro r w3 ⟨rfl, hb3⟩; have HB3 : Hid (Below w2.heap.size w2 w3) := HB.out.trans (hb3.mono hsz); clear hb3 hc)
          go_ret2
          exact ⟨_, by rw [HAG.out.2]; rfl, by rw [HAG.out.1]; exact Own4.nil _ _ _, HB2.out.trans ((HB3.out.alloc HB3.out.size _).mono HB2.out.size)⟩
        · go_wp2_with (first | (go_at_call 68; refine Calls.mono (HRI.out _) ?_; rintro r w3 ⟨rfl, hb3⟩; have HB3 : Hid (Below w2.heap.size w2 w3) := HB.out.trans (hb3.mono hsz); have HO3 : Hid (∀ o, Own4 (w3.alloc o) w2.heap.size 58 u7 (((ws.take j).drop 1).map clmR)) := (fun o => own4_alloc (own4_kept HO.out hb3) o); clear hb3 hc) | (at_builtin; refine wpList_push4 rfl _ _ 27 rfl w2.heap.size 58 Try.underlying27 Try.infoMClaim _ _ x (by rfl) (by simp [Act.eval]) (HO3.out _) HPL.out (by have := HB3.out.size; simp; omega) ?_; intro v4 w4 h4 g4; have HO4 : Hid (Own4 w4 w2.heap.size 58 v4 (((ws.take j).drop 1).map clmR ++ [x])) := h4; have HB4 : Hid (Below w2.heap.size w2 w4) := g4.below (HB3.out.alloc HB3.out.size _) (by have := HB3.out.size; simp; omega) (HO3.out _); clear h4 g4 HO3))
          go_roundw
          case rel => exact ⟨j + 1, by omega, by go_num, fun _ => HHD.out (by omega), fun i h1 h2 => by
            by_cases hij : i = j
            · subst hij; exact HOK.out
            · exact HALL.out i h1 (by omega), by rw [HUP.out]; exact HO4.out, HB4.out⟩
          case measure => simp [intOf]; omega
    · have hje : j = wn := by omega
      have HG : Hid (R = wtL ws ∧ B = sndW n (wtL ws)) := HGOOD.out (by
        rw [HTB.out, all_from (fun i h1 h2 => HALL.out i h1 (by have := HWN.out; omega)), HHD.out (by have := HLN.out.1; omega)]
        simp)
      have HT : Hid (((ws.take j).drop 1).map clmR = wtL ws) := by
        show _ = _
        rw [HTL.out, List.take_of_length_le (by have := HWN.out; omega)]
      rw [HT.out] at HO
      have HCS : Hid _ := wantIsSound_any (wtL ws) u7 n w2.heap.size wr.heap.size wr (Own4.rd HO.out (Nat.le_refl _)) (Nat.le_refl _)
      obtain ⟨va, vc, hv⟩ := Own4.len HO.out
      obtain ⟨tn, htn⟩ : ∃ n, (wtL ws).length = n := ⟨_, rfl⟩
      rw [htn] at hv
      subst hv
      clear hje htn
      go_wp2_with (go_at_call 43; refine Calls.mono HCS.out ?_; rintro r w5 ⟨rfl, hb5⟩; have HB5 : Hid (Below wr.heap.size wr w5) := hb5; clear hb5)
      go_ret2
      exact ⟨_, by rw [HG.out.2]; rfl, by rw [HG.out.1]; exact ownsRow_rebase (ownsRow_kept HO.out HB5.out) HB2.out.size, HB2.out.trans ((HB.out.trans (HB5.out.mono hsz)).mono HB2.out.size)⟩

end Go.Proofs.Ytokfiflflcfidaa
