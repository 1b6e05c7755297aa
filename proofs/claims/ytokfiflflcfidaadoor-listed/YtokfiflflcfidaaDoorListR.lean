import Derived.Test.YtokfiflflcfidaaDoorRows
import Derived.Test.YtokfiflflcfidaaDoorPlain
import Derived.Test.YtokfiflflcfidaaDoorParse
import Derived.Test.YtokfiflflcfidaaDoorMem
import Derived.Test.YtokfiflflcfidaaDoorMem2
import Derived.Test.YtokfiflflcfidaaDoorPreds
import Derived.Test.YtokfiflflcfidaaDoorRefA
import Derived.Test.YtokfiflflcfidaaDoorParseW
import Derived.Test.YtokfiflflcfidaaDoorRefC
import Derived.Test.YtokfiflflcfidaaDoorText
import Derived.Test.YtokfiflflcfidaaDoorLawB
import Derived.Test.YtokfiflflcfidaaDoorTx
import Derived.Test.YtokfiflflcfidaaDoorListM
import Derived.Test.YtokfiflflcfidaaDoorListP
import Derived.WalkKit
import Derived.WalkSpells
import Derived.WalkLawsBesides
import Derived.Deep.QuietTactic
import Derived.BigQuiet
namespace Go.Proofs.YtokfiflflcfidaaDoor
open Go.RowKit

/-- a slice that holds l, in no block of v0's -/
def LR (w : World) (v0 lv : Value) (l : List Nat) : Prop :=
  (lv = .slice none 0 0 ∧ l = []) ∨ ∃ g cap, lv = .slice (some ⟨g, 0, none⟩) l.length cap ∧ v0.ownBlock ≠ some g ∧ 0 < l.length ∧ Arr w g 0 l

theorem tx_inj {a b : List Nat} (ha : ∀ x ∈ a, x < 14) (hb : ∀ x ∈ b, x < 14) (hla : 0 < a.length) (hlb : 0 < b.length) (h : tx a = tx b) : a = b := by
  rw [← (isE_tx a ha hla).2, ← (isE_tx b hb hlb).2, h]

set_option maxRecDepth 100000 in
set_option maxHeartbeats 400000 in
theorem turn_nil (w : World) :
    Calls Tryd.prog 55 #[.slice none 0 0, .int .i64 0] w fun r w' => r = .returned (.slice none 0 0) ∧ w' = w := by
  go_enter Tryd.func55, Tryd.ntmps55
  go_wp2
  go_loop [5, 6] (fun v i => v = .slice none 0 0 ∧ i = .int .i64 0) (fun _ _ => 0)
  case atStart => exact ⟨rfl, rfl⟩
  case round =>
    obtain ⟨rfl, rfl⟩ := hrel
    go_wp2
    go_ret
    exact ⟨rfl, rfl⟩

set_option maxRecDepth 100000 in
set_option maxHeartbeats 2000000 in
theorem grown_any (w0 : World) (hT0 : TabR w0) (d : Nat) : ∀ (l : List Nat) (lv v : Value) (outs : List (List UInt8)) (w : World) (n : Nat), n = l.length + d → n ≤ 6 → 0 < n → (∀ x ∈ l, x < 14) → LR w v lv l →
    OwnS w w0.heap.size 9 v outs → outs.length + 14 ^ d ≤ 1000000000 → Below w0.heap.size w0 w →
    Calls Tryd.prog 40 #[lv, .int .i64 n, v] w fun r w' => ∃ v', r = .returned v' ∧ OwnS w' w0.heap.size 9 v' (outs ++ (ext d l).map tx) ∧ Grew w w' v v' := by
  induction d with
  | zero =>
    intro l lv v outs w n hn hn6 hn0 hE hlr hown hlen hb
    rcases hlr with ⟨_, rfl⟩ | ⟨g, cap, rfl, hoff, hl0, hA⟩
    · simp at hn; omega
    · have hnl : n = l.length := by omega
      subst hnl
      have HN : Hid _ := hn
      clear hn
      have HX : Hid (ext 0 l = if isB l then [l] else []) := by
        show _ = _
        unfold ext levF
        cases hb2 : isB l <;> simp [hb2]
      have HRD : Hid _ := rd_tx l hE hl0 (by omega)
      have hTw := hT0.kept hb
      have hxs : (⟨(tx l).toArray⟩ : ByteArray).size ≤ 9223372036854775807 := by
        rw [← size_data]
        show (tx l).length ≤ _
        rw [tx_length]; omega
      have hrdc := fun (wx : World) (h : TabR wx) => read_any ⟨(tx l).toArray⟩ hxs wx h
      have HRDC : Hid _ := hrdc
      have hedg : edgesOf (tx l) = l := (isE_tx l hE hl0).2
      have HEDG : Hid _ := hedg
      have h14 : outs.length ≤ 1000000000 := by omega
      clear hrdc hlen hedg
      go_enter Tryd.func40, Tryd.ntmps40
      go_wp2_with fail
      refine (text_any l g 0 cap _ hA hE (by omega) hTw).mono ?_
      rintro r w1 ⟨rfl, hw1⟩
      subst hw1
      go_wp2_with fail
      refine (HRDC.out _ hTw).mono ?_
      rintro r w2 ⟨v2, rfl, hyes, hno, hb2⟩
      rw [HRD.out] at hyes hno ⊢
      rw [HEDG.out] at hyes
      have hgr2 := Grew.of_below v hb2
      have hown2 := hown.kept hb2
      have hbb2 := hgr2.below hb hb.size hown
      by_cases hc0 : (chk l).1 = 0
      · obtain ⟨g2, o2, c2, rfl, hl2, hG2⟩ := hyes hc0
        have hE2 : ∀ x ∈ leastOf l, x < 14 := fun x hx => hE x (mem_leastTo l _ x hx)
        have htx := text_any (leastOf l) g2 o2 c2 w2 hG2 hE2 (by rw [hl2]; omega) (hT0.kept hbb2)
        rw [hl2] at htx
        rw [hc0]
        have HC0 : Hid _ := hc0
        have HL2 : Hid _ := hl2
        clear hyes hno hc0 hl2
        go_wp2_with fail
        refine htx.mono ?_
        rintro r w3 ⟨rfl, hw3⟩
        subst hw3
        by_cases heq : leastOf l = l
        · have HB : Hid (isB l = true) := isB_iff.2 ⟨chk_pair.1 HC0.out, heq⟩
          have hts : (tx (leastOf l) == tx l) = true := by rw [heq]; simp
          have HEQ : Hid _ := heq
          clear heq
          go_wp2_with (at_builtin; go_must (refine wpList_pushS rfl _ _ 33 rfl w0.heap.size 9 Tryd.underlying33 Tryd.infoString _ _ (tx l) (by rfl) (by rfl) hown2 h14 hbb2.size ?_); intro v4 w4 hown4 hgr4; have hgr5 := hgr2.trans hgr4; clear hown2 hgr4)
          go_ret
          exact ⟨_, rfl, by rw [HX.out, HB.out]; exact hown4, hgr5⟩
        · have HB : Hid (isB l = false) := by
            show _ = _
            cases hbb : isB l
            · rfl
            · exact absurd (isB_iff.1 hbb).2 heq
          have hts : (tx (leastOf l) == tx l) = false := by
            rw [beq_eq_false_iff_ne]
            intro e
            exact heq (tx_inj hE2 hE (by rw [HL2.out]; exact hl0) hl0 e)
          clear heq
          go_wp2
          go_ret
          exact ⟨_, rfl, by rw [HX.out, HB.out]; simpa using hown2, hgr2⟩
      · have h0i : (((chk l).1 : Int) == 0) = false := by rw [beq_eq_false_iff_ne]; omega
        have HB : Hid (isB l = false) := by
          show _ = _
          unfold isB
          rw [show ((chk l).1 == 0) = false from by rw [beq_eq_false_iff_ne]; exact hc0]; rfl
        clear hyes hno hc0
        go_wp2
        go_ret
        exact ⟨_, rfl, by rw [HX.out, HB.out]; simpa using hown2, hgr2⟩
  | succ d ih =>
    intro l lv v outs w n hn hn6 hn0 hE hlr hown hlen hb
    have HIH : Hid _ := ih
    clear ih
    have hne : ((l.length : Int) == (n : Int)) = false := by rw [beq_eq_false_iff_ne]; omega
    have HN : Hid _ := hn
    have hll : l.length ≤ 5 := by omega
    have HPW : Hid (14 ^ (d + 1) = 14 ^ d * 14) := Nat.pow_succ _ _
    have HX : Hid _ := ext_succ d l
    have HXS : Hid _ := fun k => extTo_succ d l k
    have HXL : Hid _ := fun k => extTo_length d l k
    rw [HPW.out] at hlen
    have HLEN : Hid _ := hlen
    clear hlen hn
    rcases hlr with ⟨rfl, rfl⟩ | ⟨g, cap, rfl, hoff, hl0, hA⟩
    · have hne0 : ((0 : Int) == (n : Int)) = false := by rw [beq_eq_false_iff_ne]; omega
      clear hne hll hE
      go_enter Tryd.func40, Tryd.ntmps40
      go_wp2
      go_loopw [2, 12] (fun v1 i wr => ∃ k : Nat, k ≤ 14 ∧ i = .int .i64 k ∧ OwnS wr w0.heap.size 9 v1 (outs ++ (extTo d [] k).map tx) ∧ Grew w wr v v1) (fun _ i _ => 14 - (intOf i).toNat)
      case atStart => exact ⟨0, Nat.zero_le _, rfl, by simpa [extTo, nxtTo] using hown, Grew.refl _ _⟩
      case round =>
        obtain ⟨k, hk, rfl, hown1, hgr⟩ := hrel
        by_cases hk14 : k < 14
        · have hbr := hgr.below hb hb.size hown
          have HS : Hid _ := HXS.out k
          have HQ : Hid (extTo d [] (k + 1) = extTo d [] k ++ ext d [k]) := by show _ = _; rw [HS.out]; rfl
          go_wp2
          go_quiet (fail)
          have hWd : Below wr.heap.size wr (wr.drewN nq) := below_drewN (Below.refl _ _) _
          have hownd := hown1.kept hWd
          have hgrd := hgr.trans (Grew.of_below u2 hWd)
          have hbrd : Below w0.heap.size w0 (wr.drewN nq) := below_drewN hbr _
          clear hown1 hgr hbr hWd
          generalize wr.drewN nq = W at *
          have hk2 := HXL.out k
          have hlen2 : (outs ++ (extTo d [] k).map tx).length + 14 ^ d ≤ 1000000000 := by
            rw [List.length_append, List.length_map]
            have h1 : k * 14 ^ d ≤ 13 * 14 ^ d := Nat.mul_le_mul_right _ (by omega)
            have := HLEN.out
            omega
          have HL2 : Hid _ := hlen2
          clear hk2 hlen2
          obtain ⟨lk, hlk⟩ : ∃ lk, lk = [k] := ⟨_, rfl⟩
          have hlkl : lk.length = 1 := by rw [hlk]; rfl
          have hElk : ∀ x ∈ lk, x < 14 := by
            rw [hlk]
            intro x hx
            simp at hx; omega
          have HLK : Hid _ := hlk
          have HLL : Hid _ := hlkl
          have hlk0 : 0 < lk.length := by omega
          rw [← hlk] at HQ
          clear hlk hlkl
          go_wp2_with fail
          refine (turn_nil _).mono ?_
          rintro r w2 ⟨rfl, hw2⟩
          subst hw2
          have hbr2 : Below w2.heap.size w2 w2 := Below.refl _ _
          have hown2 := Own.nil w2 w2.heap.size 3
          go_wp2_with (at_builtin; go_must (refine wpList_pushN rfl _ _ 25 rfl w2.heap.size w2.heap.size w2 3 Tryd.underlying25 Tryd.infoInt _ _ k (by rfl) (by rfl) hown2 (by simp) hbr2 (Nat.le_refl _) hbr2.size ?_); intro v3 w3 hown3 hb3 _; rw [List.nil_append, ← HLK.out] at hown3; obtain ⟨g3, c3, hv3, hg3, hG3⟩ := hown3.shape hlk0; subst hv3; clear hown2 hbr2 hown3)
          have hoff3 : u2.ownBlock ≠ some g3 := by
            intro e
            have := (World.ownsRow.lt hownd _ e).2
            omega
          refine (HIH.out lk _ u2 _ _ n (by rw [HLL.out, HN.out]; simp; omega) hn6 hn0 hElk (Or.inr ⟨g3, c3, rfl, hoff3, hlk0, hG3⟩) (hownd.kept hb3) HL2.out (hbrd.trans (hb3.mono hbrd.size))).mono ?_
          rintro r w4 ⟨v4, rfl, hown4, hgr4⟩
          have hgr5 := (hgrd.trans (Grew.of_below u2 hb3)).trans hgr4
          clear hgr4 hb3 hG3 hownd hgrd hbrd
          go_wp2
          go_roundw
          case rel => exact ⟨k + 1, by omega, by go_num, by rw [HQ.out, List.map_append, ← List.append_assoc]; exact hown4, hgr5⟩
          case measure => simp [intOf]; omega
        · have hke : k = 14 := by omega
          subst hke
          go_wp2
          go_ret
          exact ⟨_, rfl, by rw [HX.out]; exact hown1, hgr⟩
    · have hl0b : ((l.length : Int) == 0) = false := by rw [beq_eq_false_iff_ne]; omega
      have HJ : Hid (∀ e, jP l e = (bW e == eW (l[l.length - 1]?.getD 0))) := by
        intro e
        unfold jP
        rw [show l.isEmpty = false from by cases l <;> simp_all]; rfl
      have hd := getD_lt hE (l.length - 1)
      have hi : ((l.length : Int) - 1).toNat = l.length - 1 := by omega
      go_enter Tryd.func40, Tryd.ntmps40
      go_wp2
      go_loopw [2, 12] (fun v1 i wr => ∃ k : Nat, k ≤ 14 ∧ i = .int .i64 k ∧ OwnS wr w0.heap.size 9 v1 (outs ++ (extTo d l k).map tx) ∧ Grew w wr v v1) (fun _ i _ => 14 - (intOf i).toNat)
      case atStart => exact ⟨0, Nat.zero_le _, rfl, by simpa [extTo, nxtTo] using hown, Grew.refl _ _⟩
      case round =>
        obtain ⟨k, hk, rfl, hown1, hgr⟩ := hrel
        by_cases hk14 : k < 14
        · have hbr := hgr.below hb hb.size hown
          have hA1 := hgr.arr hA hoff
          have hoff1 := hgr.off hA.1 hoff
          have hc := hA1.at0 (k := l.length - 1) (by omega)
          have hTr := hT0.kept hbr
          have hst := hTr.starts k hk14
          have hen := hTr.ends _ hd
          have HJK : Hid _ := HJ.out k
          have HS : Hid _ := HXS.out k
          generalize l[l.length - 1]?.getD 0 = dl at *
          have hki : (k : Int) < 14 := by omega
          have hdi : (dl : Int) < 14 := by omega
          generalize hbk : bW k = bk at *
          generalize hed : eW dl = ed at *
          clear hbk hed
          cases hj : (bk == ed)
          · have HQ : Hid (extTo d l (k + 1) = extTo d l k) := by show _ = _; rw [HS.out, HJK.out, hj]; simp
            go_wp2
            go_quiet (fail)
            go_wp2
            go_roundw
            case rel => exact ⟨k + 1, by omega, by go_num, by rw [HQ.out]; exact hown1, hgr.trans (Grew.of_below _ (below_drewN (Below.refl _ _) _))⟩
            case measure => simp [intOf]; omega
          · have HQ : Hid (extTo d l (k + 1) = extTo d l k ++ ext d (l ++ [k])) := by show _ = _; rw [HS.out, HJK.out, hj]; simp
            go_wp2
            go_quiet (fail)
            have hWd : Below wr.heap.size wr (wr.drewN nq) := below_drewN (Below.refl _ _) _
            have hownd := hown1.kept hWd
            have hgrd := hgr.trans (Grew.of_below u2 hWd)
            have hbrd : Below w0.heap.size w0 (wr.drewN nq) := below_drewN hbr _
            have hAd := hA1.kept hWd
            clear hown1 hgr hbr hA1 hc hst hen hTr hWd
            generalize wr.drewN nq = W at *
            have hk2 := HXL.out k
            have hlen2 : (outs ++ (extTo d l k).map tx).length + 14 ^ d ≤ 1000000000 := by
              rw [List.length_append, List.length_map]
              have h1 : k * 14 ^ d ≤ 13 * 14 ^ d := Nat.mul_le_mul_right _ (by omega)
              have := HLEN.out
              omega
            have HL2 : Hid _ := hlen2
            clear hk2 hlen2
            obtain ⟨lk, hlk⟩ : ∃ lk, lk = l ++ [k] := ⟨_, rfl⟩
            have hlkl : lk.length = l.length + 1 := by rw [hlk]; simp
            have hElk : ∀ x ∈ lk, x < 14 := by
              rw [hlk]
              intro x hx
              rcases List.mem_append.1 hx with h | h
              · exact hE x h
              · simp at h; omega
            have HLK : Hid _ := hlk
            have HLL : Hid _ := hlkl
            have hlk0 : 0 < lk.length := by omega
            rw [← hlk] at HQ
            clear hlk hlkl
            go_wp2_with fail
            refine (turn_any l g 0 cap 0 _ hAd hl0 (by omega) (by omega)).mono ?_
            rintro r w2 ⟨v2, rfl, hown2, hb2⟩
            rw [turn_zero] at hown2
            go_wp2_with (at_builtin; go_must (refine wpList_pushN rfl _ _ 25 rfl W.heap.size W.heap.size W 3 Tryd.underlying25 Tryd.infoInt _ _ k (by rfl) (by rfl) hown2 (by omega) hb2 (Nat.le_refl _) hb2.size ?_); intro v3 w3 hown3 hb3 _; rw [← HLK.out] at hown3; obtain ⟨g3, c3, hv3, hg3, hG3⟩ := hown3.shape hlk0; subst hv3; clear hown2 hb2 hown3)
            have hoff3 : u2.ownBlock ≠ some g3 := by
              intro e
              have := (World.ownsRow.lt hownd _ e).2
              omega
            refine (HIH.out lk _ u2 _ _ n (by rw [HLL.out, HN.out]; omega) hn6 hn0 hElk (Or.inr ⟨g3, c3, rfl, hoff3, hlk0, hG3⟩) (hownd.kept hb3) HL2.out (hbrd.trans (hb3.mono hbrd.size))).mono ?_
            rintro r w4 ⟨v4, rfl, hown4, hgr4⟩
            have hgr5 := (hgrd.trans (Grew.of_below u2 hb3)).trans hgr4
            clear hgr4 hb3 hG3 hownd hgrd hbrd hAd
            go_wp2
            go_roundw
            case rel => exact ⟨k + 1, by omega, by go_num, by rw [HQ.out, List.map_append, ← List.append_assoc]; exact hown4, hgr5⟩
            case measure => simp [intOf]; omega
        · have hke : k = 14 := by omega
          subst hke
          go_wp2
          go_ret
          exact ⟨_, rfl, by rw [HX.out]; exact hown1, hgr⟩

end Go.Proofs.YtokfiflflcfidaaDoor
