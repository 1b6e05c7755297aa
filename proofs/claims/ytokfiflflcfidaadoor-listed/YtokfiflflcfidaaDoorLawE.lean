import Derived.Test.YtokfiflflcfidaaDoorRows
import Derived.Test.YtokfiflflcfidaaDoorPlain
import Derived.Test.YtokfiflflcfidaaDoorParse
import Derived.Test.YtokfiflflcfidaaDoorMem
import Derived.Test.YtokfiflflcfidaaDoorMem2
import Derived.Test.YtokfiflflcfidaaDoorPreds
import Derived.Test.YtokfiflflcfidaaDoorParseW
import Derived.Test.YtokfiflflcfidaaDoorRefC
import Derived.Test.YtokfiflflcfidaaDoorText
import Derived.Test.YtokfiflflcfidaaDoorLawB
import Derived.Test.YtokfiflflcfidaaDoorTx
import Derived.Test.YtokfiflflcfidaaDoorLawC
import Derived.Test.YtokfiflflcfidaaDoorListM
import Derived.Test.YtokfiflflcfidaaDoorListN
import Derived.Test.YtokfiflflcfidaaDoorListP
import Derived.Test.YtokfiflflcfidaaDoorListQ
import Derived.Test.YtokfiflflcfidaaDoorListR
import Derived.Test.YtokfiflflcfidaaDoorLawD
import Derived.WalkKit
import Derived.WalkSpells
import Derived.WalkLawsBesides
import Derived.Deep.QuietTactic
import Derived.BigQuiet
import Derived.Lib.SliceRun
namespace Go.Proofs.YtokfiflflcfidaaDoor
open Go.RowKit

/-- a is listed ahead of b, by its bytes -/
def BefB (a b : ByteArray) : Prop := a.size < b.size ∨ (a.size = b.size ∧ ∃ k, k < a.size ∧ (∀ i, i < k → a.data.toList[i]?.getD 0 = b.data.toList[i]?.getD 0) ∧ a.data.toList[k]?.getD 0 < b.data.toList[k]?.getD 0)

set_option maxRecDepth 100000 in
set_option maxHeartbeats 800000 in
theorem before_any (a b : ByteArray) (_ha : a.size ≤ 1000) (_hb : b.size ≤ 1000) (h : BefB a b) (w : World) :
    Calls Tryd.prog 19 #[.string a, .string b] w fun r w' => r = .returned (.bool true) ∧ ∃ m, w' = w.drewN m := by
  rcases h with h | ⟨hs, k, hk, heq, hlt⟩
  · have hne : ((a.size : Int) == (b.size : Int)) = false := by rw [beq_eq_false_iff_ne]; omega
    go_enter Tryd.func19, Tryd.ntmps19
    go_wp2
    go_ret
    exact ⟨rfl, 0, rfl⟩
  · have hne : ((a.size : Int) == (b.size : Int)) = true := by rw [beq_iff_eq]; omega
    have HEQ : Hid _ := heq
    have HLT : Hid _ := hlt
    have HS : Hid _ := hs
    clear heq hlt hs
    go_enter Tryd.func19, Tryd.ntmps19
    go_wp2
    go_loopw [5] (fun i wr => ∃ n : Nat, n ≤ k ∧ i = .int .i64 n ∧ ∃ m, wr = w.drewN m) (fun i _ => k - (intOf i).toNat)
    case atStart => exact ⟨0, Nat.zero_le _, rfl, 0, rfl⟩
    case round =>
      obtain ⟨n, hn, rfl, m, rfl⟩ := hrel
      have hna : n < a.size := by omega
      have hnb : n < b.size := by have := HS.out; omega
      have hnai : (n : Int) < (a.size : Int) := by omega
      have hnbi : (n : Int) < (b.size : Int) := by omega
      by_cases hlt : n < k
      · have hq : (((a[n]'hna).toNat : Int) == ((b[n]'hnb).toNat : Int)) = true := by
          rw [beq_byte, ← byte_at a n hna, ← byte_at b n hnb, HEQ.out n hlt]; simp
        go_wp2
        go_quiet (fail)
        go_wp2
        go_roundw
        case rel => exact ⟨n + 1, by omega, by go_num, _, rfl⟩
        case measure => simp [intOf]; omega
      · have hnk : n = k := by omega
        subst hnk
        have hlt2 := HLT.out
        rw [byte_at a n hna, byte_at b n hnb, UInt8.lt_iff_toNat_lt] at hlt2
        have hq : (((a[n]'hna).toNat : Int) == ((b[n]'hnb).toNat : Int)) = false := by rw [beq_eq_false_iff_ne]; omega
        have hl2 : ((a[n]'hna).toNat : Int) < ((b[n]'hnb).toNat : Int) := by omega
        clear hlt2
        go_wp2
        go_quiet (fail)
        go_wp2
        go_quiet (fail)
        go_wp2
        go_ret
        exact ⟨by simp, _, by rw [World.drewN_drewN, World.drewN_drewN]⟩

set_option maxRecDepth 100000 in
set_option maxHeartbeats 400000 in
theorem text_nil (w : World) :
    Calls Tryd.prog 15 #[.slice none 0 0] w fun r w' => r = .returned (.string ⟨#[]⟩) ∧ w' = w := by
  go_enter Tryd.func15, Tryd.ntmps15
  go_wp2
  go_loop [3, 4] (fun s i => s = .string ⟨#[]⟩ ∧ i = .int .i64 0) (fun _ _ => 0)
  case atStart => exact ⟨rfl, rfl⟩
  case round =>
    obtain ⟨rfl, rfl⟩ := hrel
    go_wp2
    go_ret
    exact ⟨rfl, rfl⟩

theorem bef_tx {a b : List Nat} (ha : ∀ x ∈ a, x < 14) (hb : ∀ x ∈ b, x < 14) (hla : 0 < a.length) (h : Ahead a b) : BefB ⟨(tx a).toArray⟩ ⟨(tx b).toArray⟩ := by
  have e1 : (⟨(tx a).toArray⟩ : ByteArray).size = (tx a).length := by rw [← size_data]
  have e2 : (⟨(tx b).toArray⟩ : ByteArray).size = (tx b).length := by rw [← size_data]
  unfold BefB
  rw [e1, e2, tx_length, tx_length]
  rcases h with h | ⟨h1, h2⟩
  · left; omega
  · right
    obtain ⟨k, k1, k2, k3⟩ := tx_first ha hb h1 h2
    rw [tx_length] at k1
    exact ⟨by omega, k, k1, k2, k3⟩

theorem OwnS.either {w : World} {base T : Nat} {v : Value} {l : List (List UInt8)} (h : OwnS w base T v l) :
    ∃ va vc, v = .slice va l.length vc ∧ ∀ i, i < l.length → ∃ g, va = some ⟨g, 0, none⟩ ∧ g < w.heap.size ∧ ∀ k, k < l.length → w.cell? ⟨g, k, none⟩ = some (.string ⟨(l[k]?.getD []).toArray⟩) := by
  by_cases h0 : 0 < l.length
  · obtain ⟨g, c, rfl, _, h1, h2⟩ := h.shape h0
    exact ⟨_, c, rfl, fun i _ => ⟨g, rfl, h1, h2⟩⟩
  · obtain ⟨a, c, rfl⟩ := h.lenV
    exact ⟨a, c, rfl, fun i hi => absurd hi (by omega)⟩
theorem map_tx_at (L : List (List Nat)) (k : Nat) (h : k < L.length) : (L.map tx)[k]?.getD [] = tx (L[k]?.getD []) := by simp [h]
theorem size_tx (l : List Nat) : (⟨(tx l).toArray⟩ : ByteArray).size = 4 * l.length - 1 := by rw [← size_data]; exact tx_length l

theorem any_take_succ (L : List (List Nat)) (p : List Nat → Bool) (n : Nat) (h : n < L.length) : (L.take (n + 1)).any p = ((L.take n).any p || p (L[n]?.getD [])) := by
  rw [take_snocH L n h, List.any_append]; simp

set_option maxRecDepth 100000 in
set_option maxHeartbeats 2000000 in
theorem listed_any (n most : Int) (s : ByteArray) (hs : s.size ≤ 9223372036854775807) (w : World) (hT : TabN w) (hR : TabR w) :
    Calls Tryd.prog 7 #[.int .i64 n, .int .i64 most, .string s] w fun r w' => r = .returned (.bool true) ∧ Below w.heap.size w w' := by
  have hnil := fun (wx : World) => Lib.run_eql_slice_nil (P := Tryd.prog) wx 33 9 none 0 0 0 0 Tryd.underlying33
  by_cases hbad : RangeBad n most
  · have hp : ∀ v e w', AllAns w' w.heap.size n most v e → e = 11 ∧ v = .slice none 0 0 := by
      intro v e w' h
      rcases h with ⟨_, h1, h2⟩ | ⟨h1, _⟩
      · exact ⟨h1, h2⟩
      · exact absurd hbad h1
    have HP : Hid _ := hp
    clear hp
    unfold RangeBad at hbad
    by_cases h1 : n < 0
    · go_enter Tryd.func7, Tryd.ntmps7
      go_wp2_with fail
      refine (allP_any n most _ hT).mono ?_
      rintro r w1 ⟨v1, e1, rfl, ha1, hb1⟩
      obtain ⟨rfl, rfl⟩ := HP.out _ _ _ ha1
      clear ha1 hbad
      go_wp2_with (go_at_call 13; refine (num_any _ _).mono ?_; rintro r w3 ⟨rfl, rfl⟩)
      go_ret
      exact ⟨rfl, hb1⟩
    · by_cases h2 : 6 < n
      · go_enter Tryd.func7, Tryd.ntmps7
        go_wp2_with fail
        refine (allP_any n most _ hT).mono ?_
        rintro r w1 ⟨v1, e1, rfl, ha1, hb1⟩
        obtain ⟨rfl, rfl⟩ := HP.out _ _ _ ha1
        clear ha1 hbad
        go_wp2_with (go_at_call 13; refine (num_any _ _).mono ?_; rintro r w3 ⟨rfl, rfl⟩)
        go_ret
        exact ⟨rfl, hb1⟩
      · by_cases h3 : most < 0
        · go_enter Tryd.func7, Tryd.ntmps7
          go_wp2_with fail
          refine (allP_any n most _ hT).mono ?_
          rintro r w1 ⟨v1, e1, rfl, ha1, hb1⟩
          obtain ⟨rfl, rfl⟩ := HP.out _ _ _ ha1
          clear ha1 hbad
          go_wp2_with (go_at_call 13; refine (num_any _ _).mono ?_; rintro r w3 ⟨rfl, rfl⟩)
          go_ret
          exact ⟨rfl, hb1⟩
        · have h4 : 4000 < most := by omega
          go_enter Tryd.func7, Tryd.ntmps7
          go_wp2_with fail
          refine (allP_any n most _ hT).mono ?_
          rintro r w1 ⟨v1, e1, rfl, ha1, hb1⟩
          obtain ⟨rfl, rfl⟩ := HP.out _ _ _ ha1
          clear ha1 hbad
          go_wp2_with (go_at_call 13; refine (num_any _ _).mono ?_; rintro r w3 ⟨rfl, rfl⟩)
          go_ret
          exact ⟨rfl, hb1⟩
  · have hrange : 0 ≤ n ∧ n ≤ 6 ∧ 0 ≤ most ∧ most ≤ 4000 := by unfold RangeBad at hbad; omega
    have HB : Hid _ := hbad
    obtain ⟨n, rfl⟩ := Int.eq_ofNat_of_zero_le hrange.1
    obtain ⟨most, rfl⟩ := Int.eq_ofNat_of_zero_le hrange.2.2.1
    have hn6 : n ≤ 6 := by omega
    have hm4 : most ≤ 4000 := by omega
    have d1 : decide ((n : Int) < 0) = false := by simp
    have d2 : decide ((6 : Int) < (n : Int)) = false := by simp; omega
    have d3 : decide ((most : Int) < 0) = false := by simp
    have d4 : decide ((4000 : Int) < (most : Int)) = false := by simp; omega
    clear hbad hrange
    go_enter Tryd.func7, Tryd.ntmps7
    go_wp2_with fail
    refine (allP_any n most _ hT).mono ?_
    rintro r w1 ⟨v1, e1, rfl, ha1, hb1⟩
    rcases ha1 with ⟨hr1, _⟩ | ⟨_, ⟨hl1, rfl, ho1⟩ | ⟨hl1, rfl, rfl⟩⟩
    · exact absurd hr1 HB.out
    · rw [Int.toNat_natCast] at hl1 ho1
      rw [Int.toNat_natCast] at hl1
      go_wp2_with (go_at_call 13; refine (num_any _ _).mono ?_; rintro r w3 ⟨rfl, rfl⟩)
      refine (read_any s hs _ (hR.kept hb1)).mono ?_
      rintro r w2 ⟨v2, rfl, hyes, hno, hb2⟩
      have hbb := hb1.trans (hb2.mono hb1.size)
      have htext : ∃ len2 a2 c2, v2 = .slice a2 len2 c2 ∧ Calls Tryd.prog 15 #[v2] w2 (fun r w' => r = .returned (.string (bs s.data.toList)) ∧ w' = w2) ∧ ((rd s.data.toList).1 = 0 → len2 = (edgesOf s.data.toList).length) ∧ len2 ≤ 16 := by
        by_cases h0 : (rd s.data.toList).1 = 0
        · have hz := rd_zero h0
          obtain ⟨g, go, gc, rfl, hgl, hG⟩ := hyes h0
          have hEl := edgesOf_lt hz.2.1
          have hlen := edgesOf_length hz.2.1
          have hl16 : (edgesOf s.data.toList).length ≤ 16 := by have := hz.2.2.1; omega
          have htx := text_any (leastOf (edgesOf s.data.toList)) g go gc w2 hG (fun x hx => hEl x (mem_leastTo _ _ x hx)) (by rw [hgl]; omega) (hR.kept hbb)
          rw [hgl] at htx
          refine ⟨_, _, _, rfl, ?_, fun _ => rfl, hl16⟩
          rw [bs_ok h0]
          exact htx
        · have hv := hno h0
          subst hv
          refine ⟨0, none, 0, rfl, ?_, fun h => absurd h h0, by omega⟩
          rw [bs_no h0]
          exact text_nil w2
      obtain ⟨len2, a2, c2, rfl, hT2, hl2, hl16⟩ := htext
      have HT2 : Hid _ := hT2
      have HL2 : Hid _ := hl2
      clear hT2 hl2 hyes hno
      have hown := ho1.kept hb2
      clear ho1
      obtain ⟨L, hL⟩ : ∃ L, L = basesTo n := ⟨_, rfl⟩
      have hpair := basesTo_pair n
      have hok := fun l h => basesTo_ok (n := n) (l := l) h
      rw [← hL] at hl1 hown hpair hok
      have HLL : Hid _ := hL
      have HPAIR : Hid _ := hpair
      have HOK : Hid _ := hok
      clear hL hpair hok
      have hfin : (rd s.data.toList).1 = 0 → L.any (fun l => tx l == (bs s.data.toList).toList) = decide ((len2 : Int) ≤ (n : Int)) := by
        intro h0
        have hz := rd_zero h0
        have hlen := edgesOf_length hz.2.1
        have hEl : ∀ x ∈ leastOf (edgesOf s.data.toList), x < 14 := fun x hx => edgesOf_lt hz.2.1 x (mem_leastTo _ _ x hx)
        have hch : chk (edgesOf s.data.toList) = (0, 0) := by rw [← chk_eq _ hlen.1]; exact hz.2.2.2
        have hmem := mem_basesTo_of hEl (chk_least _ hlen.1 hch) (leastOf_leastOf _ hlen.1) n
        have hlb : 0 < (leastOf (edgesOf s.data.toList)).length := by rw [leastOf_length]; exact hlen.1
        rw [leastOf_length] at hmem
        rw [HL2.out h0, bs_ok h0, Bool.eq_iff_iff, List.any_eq_true, decide_eq_true_iff]
        constructor
        · rintro ⟨l, hl, hq⟩
          rw [ByteArray.toList_eq, beq_iff_eq] at hq
          have hl' : l ∈ basesTo n := by rw [← HLL.out]; exact hl
          have hk := basesTo_ok hl'
          have := tx_inj hk.2.2.1 hEl (by omega) hlb hq
          rw [this] at hl'
          have := hmem.1 hl'
          omega
        · intro hle
          refine ⟨leastOf (edgesOf s.data.toList), by rw [HLL.out]; exact hmem.2 (by omega), ?_⟩
          rw [ByteArray.toList_eq, beq_iff_eq]
      have HFIN : Hid _ := hfin
      clear hfin
      obtain ⟨va, vc, hv1, hcell⟩ := hown.either
      rw [List.length_map] at hv1 hcell
      subst hv1
      have HCELL : Hid _ := hcell
      clear hcell hown
      generalize bs s.data.toList = t at *
      go_wp2_with fail
      refine Calls.mono HT2.out ?_
      rintro r w4 ⟨rfl, hw4⟩
      subst hw4
      clear HT2
      have hTN := hT.kept hbb
      go_wp2
      go_loopw [13, 14] (fun f i wr => ∃ k : Nat, k ≤ L.length ∧ i = .int .i64 k ∧ f = .bool ((L.take k).any (fun l => tx l == t.toList)) ∧ Below w4.heap.size w4 wr) (fun _ i _ => L.length - (intOf i).toNat)
      case atStart => exact ⟨0, Nat.zero_le _, rfl, rfl, Below.refl _ _⟩
      case round =>
        obtain ⟨k, hk, rfl, rfl, hbr⟩ := hrel
        by_cases hlt : k < L.length
        · obtain ⟨g, rfl, hg, hcells⟩ := HCELL.out k hlt
          have hbbr := hbb.trans (hbr.mono hbb.size)
          have hc := (hbr.cell (p := ⟨g, k, none⟩) hg).trans (hcells k hlt)
          rw [map_tx_at L k hlt] at hc
          have hmem := HOK.out (L[k]'hlt) (List.getElem_mem _)
          have hge : L[k]?.getD [] = L[k]'hlt := by simp [hlt]
          rw [← hge] at hmem
          have HS : Hid _ := any_take_succ L (fun l => tx l == t.toList) k hlt
          have hba := fun (wx : World) (hx : TabN wx) => base_any ⟨(tx (L[k]?.getD [])).toArray⟩ (by rw [size_tx]; omega) wx hx
          have hrd : rd (⟨(tx (L[k]?.getD [])).toArray⟩ : ByteArray).data.toList = (0, 0) := (rd_tx _ hmem.2.2.1 (by omega) (by omega)).trans hmem.1
          have hbs : bs (⟨(tx (L[k]?.getD [])).toArray⟩ : ByteArray).data.toList = ⟨(tx (L[k]?.getD [])).toArray⟩ := by
            unfold bs
            have : bsL (⟨(tx (L[k]?.getD [])).toArray⟩ : ByteArray).data.toList = tx (L[k]?.getD []) := by
              show bsL (tx (L[k]?.getD [])) = _
              rw [bs_tx _ hmem.2.2.1 (by omega) (by omega) hmem.1, hmem.2.1]
            rw [this]
          rw [hrd, hbs] at hba
          have HBA : Hid _ := hba
          have hTs : ((⟨(tx (L[k]?.getD [])).toArray⟩ : ByteArray).size : Int) ≤ 4 * (n : Int) - 1 := by rw [size_tx]; omega
          have hTs2 : (⟨(tx (L[k]?.getD [])).toArray⟩ : ByteArray).size ≤ 1000 := by rw [size_tx]; omega
          have HQ : Hid ((tx (L[k]?.getD []) == t.toList) = ((⟨(tx (L[k]?.getD [])).toArray⟩ : ByteArray).toList == t.toList)) := by
            show _ = _
            rw [ByteArray.toList_eq ⟨(tx (L[k]?.getD [])).toArray⟩]
          have hprev : 0 < k → ∃ T' : ByteArray, w4.cell? ⟨g, k - 1, none⟩ = some (.string T') ∧ T'.size ≤ 1000 ∧ BefB T' ⟨(tx (L[k]?.getD [])).toArray⟩ := by
            intro h0
            have hk1 : k - 1 < L.length := by omega
            have hm1 := HOK.out (L[k - 1]'hk1) (List.getElem_mem _)
            have hge1 : L[k - 1]?.getD [] = L[k - 1]'hk1 := by simp [hk1]
            refine ⟨⟨(tx (L[k - 1]?.getD [])).toArray⟩, by rw [hcells (k - 1) hk1, map_tx_at L _ hk1], by rw [hge1, size_tx]; omega, ?_⟩
            rw [hge1, hge]
            exact bef_tx hm1.2.2.1 (by rw [← hge]; exact hmem.2.2.1) (by omega) (List.pairwise_iff_getElem.1 HPAIR.out (k - 1) k hk1 hlt (by omega))
          have HPREV : Hid _ := hprev
          clear hge hrd hbs hba hprev hmem hcells
          have hTN2 := hT.kept hbbr
          generalize (⟨(tx (L[k]?.getD [])).toArray⟩ : ByteArray) = T at *
          go_wp2_with fail
          refine (HBA.out _ hTN2).mono ?_
          rintro r w5 ⟨rfl, hb5⟩
          have hb45 := hbr.trans (hb5.mono hbr.size)
          have hc5 : w5.cell? ⟨g, k, none⟩ = some (.string T) := (hb5.cell (p := ⟨g, k, none⟩) (Nat.lt_of_lt_of_le hg hbr.size)).trans hc
          have hb45d : Below w4.heap.size w4 w5 := hb45
          clear HBA hb5 hc hbr hbbr
          cases hq : (T.toList == t.toList)
          · have HANY : Hid ((L.take (k + 1)).any (fun l => tx l == t.toList) = (L.take k).any (fun l => tx l == t.toList)) := by
              show _ = _
              rw [HS.out, HQ.out, hq, Bool.or_false]
            generalize (L.take k).any (fun l => tx l == t.toList) = fk at *
            by_cases h0 : 0 < k
            · obtain ⟨T', hc', hs', hbf⟩ := HPREV.out h0
              have h0i : (0 : Int) < (k : Int) := by omega
              have hidx : ((k : Int) - 1).toNat = k - 1 := by omega
              have hc5' : w5.cell? ⟨g, k - 1, none⟩ = some (.string T') := (hb45.cell (p := ⟨g, k - 1, none⟩) hg).trans hc'
              clear hc'
              go_wp2_with (go_at_call 13; refine (num_any _ _).mono ?_; rintro r w3 ⟨rfl, rfl⟩)
              go_quiet ((go_at_call 19; exact Calls.quiet_of (before_any T' T hs' hTs2 hbf _)))
              go_wp2
              go_roundw
              case rel => exact ⟨k + 1, by omega, by go_num, by rw [HANY.out], below_drewN hb45d _⟩
              case measure => simp [intOf]; omega
            · have h0i : ¬ ((0 : Int) < (k : Int)) := by omega
              go_wp2_with (go_at_call 13; refine (num_any _ _).mono ?_; rintro r w3 ⟨rfl, rfl⟩)
              go_roundw
              case rel => exact ⟨k + 1, by omega, by go_num, by rw [HANY.out], hb45d⟩
              case measure => simp [intOf]; omega
          · have HANY : Hid ((L.take (k + 1)).any (fun l => tx l == t.toList) = true) := by
              show _ = _
              rw [HS.out, HQ.out, hq, Bool.or_true]
            generalize (L.take k).any (fun l => tx l == t.toList) = fk at *
            by_cases h0 : 0 < k
            · obtain ⟨T', hc', hs', hbf⟩ := HPREV.out h0
              have h0i : (0 : Int) < (k : Int) := by omega
              have hidx : ((k : Int) - 1).toNat = k - 1 := by omega
              have hc5' : w5.cell? ⟨g, k - 1, none⟩ = some (.string T') := (hb45.cell (p := ⟨g, k - 1, none⟩) hg).trans hc'
              clear hc'
              go_wp2_with (go_at_call 13; refine (num_any _ _).mono ?_; rintro r w3 ⟨rfl, rfl⟩)
              go_quiet ((go_at_call 19; exact Calls.quiet_of (before_any T' T hs' hTs2 hbf _)))
              go_wp2
              go_roundw
              case rel => exact ⟨k + 1, by omega, by go_num, by rw [HANY.out], below_drewN hb45d _⟩
              case measure => simp [intOf]; omega
            · have h0i : ¬ ((0 : Int) < (k : Int)) := by omega
              go_wp2_with (go_at_call 13; refine (num_any _ _).mono ?_; rintro r w3 ⟨rfl, rfl⟩)
              go_roundw
              case rel => exact ⟨k + 1, by omega, by go_num, by rw [HANY.out], hb45d⟩
              case measure => simp [intOf]; omega
        · have hke : k = L.length := by omega
          have HF : Hid ((L.take k).any (fun l => tx l == t.toList) = L.any (fun l => tx l == t.toList)) := by show _ = _; rw [hke, List.take_length]
          rw [HF.out]
          clear hke
          have hlm : (L.length : Int) ≤ (most : Int) := by omega
          by_cases h0 : (rd s.data.toList).1 = 0
          · have hfe := HFIN.out h0
            generalize L.any (fun l => tx l == t.toList) = fk at *
            subst hfe
            rw [h0]
            go_wp2_with (go_at_call 13; refine (num_any _ _).mono ?_; rintro r w3 ⟨rfl, rfl⟩)
            go_ret
            exact ⟨by simp, hbb.trans (hbr.mono hbb.size)⟩
          · have h0i : (((rd s.data.toList).1 : Int) == 0) = false := by rw [beq_eq_false_iff_ne]; omega
            generalize L.any (fun l => tx l == t.toList) = fk at *
            go_wp2_with (go_at_call 13; refine (num_any _ _).mono ?_; rintro r w3 ⟨rfl, rfl⟩)
            go_ret
            exact ⟨by simp, hbb.trans (hbr.mono hbb.size)⟩
    · rw [Int.toNat_natCast, Int.toNat_natCast] at hl1
      have h4 : (4 : Int) ≤ (n : Int) := by
        apply Int.le_of_not_gt
        intro hlt
        rw [basesTo_small n (by omega)] at hl1
        simp at hl1
      clear hl1
      go_wp2_with (go_at_call 13; refine (num_any _ _).mono ?_; rintro r w3 ⟨rfl, rfl⟩)
      go_ret
      exact ⟨rfl, hb1⟩

end Go.Proofs.YtokfiflflcfidaaDoor
