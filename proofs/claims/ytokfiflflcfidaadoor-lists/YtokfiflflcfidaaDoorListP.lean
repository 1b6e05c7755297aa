import Derived.Test.YtokfiflflcfidaaDoorRows
import Derived.Test.YtokfiflflcfidaaDoorPlain
import Derived.Test.YtokfiflflcfidaaDoorParse
import Derived.Test.YtokfiflflcfidaaDoorMem
import Derived.Test.YtokfiflflcfidaaDoorMem2
import Derived.Test.YtokfiflflcfidaaDoorPreds
import Derived.Test.YtokfiflflcfidaaDoorProgA
import Derived.Test.YtokfiflflcfidaaDoorParseW
import Derived.Test.YtokfiflflcfidaaDoorText
import Derived.Test.YtokfiflflcfidaaDoorSpell
import Derived.Test.YtokfiflflcfidaaDoorListM
import Derived.WalkKit
import Derived.WalkSpells
import Derived.WalkLawsBesides
namespace Go.Proofs.YtokfiflflcfidaaDoor
open Go.RowKit

theorem Tryd.infoString : (Tryd.prog.info? 9).map (fun i => (i.zero, i.size, i.bytes)) = some (some (.string ⟨#[]⟩), 1, 16) := by kernel_rfl
theorem Tryd.infoEdges : (Tryd.prog.info? 68).map (fun i => (i.zero, i.size, i.bytes)) = some (some (.slice none 0 0), 1, 24) := by kernel_rfl

set_option maxRecDepth 100000 in
set_option maxHeartbeats 400000 in
theorem canFollow_any (l : List Nat) (b cap e : Nat) (w : World) (hA : Arr w b 0 l) (hE : ∀ x ∈ l, x < 14) (he : e < 14) (hl : 0 < l.length) (hl2 : l.length ≤ 1000) :
    Calls Tryd.prog 76 #[.slice (some ⟨b, 0, none⟩) l.length cap, .int .i64 e] w fun r w' => r = .returned (.bool (cP l e)) ∧ w' = w := by
  have h0 : ((l.length : Int) == 0) = false := by rw [beq_eq_false_iff_ne]; omega
  have hc0 := hA.at0 hl
  have hc1 := hA.at0 (k := l.length - 1) (by omega)
  have hi : ((l.length : Int) - 1).toNat = l.length - 1 := by omega
  have HC : Hid (cP l e = (decide (l[0]?.getD 0 ≤ e) && bW e == eW (l[l.length - 1]?.getD 0))) := by
    show _ = _
    unfold cP
    rw [show l.isEmpty = false from by cases l <;> simp_all]; rfl
  have hd := getD_lt hE (l.length - 1)
  generalize l[0]?.getD 0 = a at *
  generalize l[l.length - 1]?.getD 0 = d at *
  by_cases hae : a ≤ e
  · go_enter Tryd.func76, Tryd.ntmps76
    go_wp2_with (go_at_call 85; refine (joins_any e d he hd _).mono ?_; rintro r w1 ⟨rfl, rfl⟩)
    go_ret
    refine ⟨?_, rfl⟩
    rw [HC.out, decide_eq_true hae]; rfl
  · go_enter Tryd.func76, Tryd.ntmps76
    go_wp2
    go_ret
    refine ⟨?_, rfl⟩
    rw [HC.out, decide_eq_false hae]; rfl

set_option maxRecDepth 100000 in
set_option maxHeartbeats 400000 in
theorem isBase_any (l : List Nat) (b off cap : Nat) (w : World) (hA : Arr w b off l) (hE : ∀ x ∈ l, x < 14) (hl : 0 < l.length) (hl2 : l.length ≤ 1000) :
    Calls Tryd.prog 63 #[.slice (some ⟨b, off, none⟩) l.length cap] w fun r w' => r = .returned (.bool (isB l)) ∧ Below w.heap.size w w' := by
  have HB : Hid (isB l = ((chk l).1 == 0 && !lexLt (leastOf l) l)) := rfl
  go_enter Tryd.func63, Tryd.ntmps63
  go_wp2_with fail
  refine (checkEdges_any l b off cap _ hA hE hl hl2).mono ?_
  rintro r w1 ⟨rfl, hb1⟩
  by_cases h0 : (chk l).1 = 0
  · rw [h0]
    rw [h0] at HB
    have H0 : Hid _ := h0
    clear h0
    go_wp2_with fail
    refine (leastRotation_any l b off cap _ (hA.kept hb1) hl hl2).mono ?_
    rintro r w2 ⟨v2, rfl, hown, hb2⟩
    have hll := leastOf_length l
    obtain ⟨g2, c2, hv2, hg2, hG2⟩ := hown.shape (by rw [hll]; exact hl)
    rw [hll] at hv2
    subst hv2
    have hca := comesAhead_any (leastOf l) l l.length g2 0 c2 b off cap w2 hll rfl hG2 ((hA.kept hb1).kept hb2) hl2
    clear hll
    go_wp2_with fail
    refine hca.mono ?_
    rintro r w3 ⟨rfl, hb3⟩
    go_wp2
    go_ret
    refine ⟨?_, hb1.trans ((hb2.mono hb1.size).trans (hb3.mono (Nat.le_trans hb1.size hb2.size)))⟩
    rw [HB.out]; rfl
  · have h0i : (((chk l).1 : Int) == 0) = false := by rw [beq_eq_false_iff_ne]; omega
    have h0n : ((chk l).1 == 0) = false := by rw [beq_eq_false_iff_ne]; exact h0
    rw [h0n] at HB
    clear h0n
    go_wp2
    go_ret
    refine ⟨?_, hb1⟩
    rw [HB.out]; rfl

set_option maxRecDepth 100000 in
set_option maxHeartbeats 400000 in
theorem firstHeads_any (w : World) :
    Calls Tryd.prog 62 #[] w fun r w' => ∃ v, r = .returned v ∧ OwnH w' w.heap.size 68 v (lev cP 1) ∧ Below w.heap.size w w' := by
  go_enter Tryd.func62, Tryd.ntmps62
  go_wp2
  go_loopw [1, 2] (fun v i wr => ∃ n : Nat, n ≤ 14 ∧ i = .int .i64 n ∧ OwnH wr w.heap.size 68 v (nxtTo cP [] n) ∧ Below w.heap.size w wr) (fun _ i _ => 14 - (intOf i).toNat)
  case atStart => exact ⟨0, Nat.zero_le _, rfl, OwnH.nil _ _ _, Below.refl _ _⟩
  case round =>
    obtain ⟨n, hn, rfl, hown, hb⟩ := hrel
    by_cases hlt : n < 14
    · have hba : Below wr.heap.size wr (wr.alloc (.cells #[.int .i64 (n : Int)] 108)) := (Below.refl _ _).alloc (Nat.le_refl _) _
      have hown1 := hown.kept hba
      have hbb : Below w.heap.size w (wr.alloc (.cells #[.int .i64 (n : Int)] 108)) := hb.alloc hb.size _
      have hA1 : Arr (wr.alloc (.cells #[.int .i64 (n : Int)] 108)) wr.heap.size 0 [n] := by
        refine ⟨by simp, fun k hk => ?_⟩
        have : k = 0 := by simp at hk; omega
        subst this
        simp
      have hoff : u1.ownBlock ≠ some wr.heap.size := by
        intro e
        obtain ⟨cells, h1, _⟩ := hown
        have := (h1.lt _ e).2
        omega
      have HS : Hid (nxtTo cP [] (n + 1) = nxtTo cP [] n ++ [[n]]) := by
        show _ = _
        rw [nxtTo_succ]; rfl
      have hln := nxtTo_length cP [] n
      have hown2 := hown1
      clear hown
      go_wp2_with (at_builtin; go_must (refine wpList_pushH rfl _ _ 110 rfl w.heap.size 68 Tryd.underlying110 Tryd.infoEdges _ _ [n] wr.heap.size 1 (by rfl) (by simp only [World.size_alloc]; rfl) hown2 hA1 hb.size hoff (by omega) hbb.size ?_); intro v' w2 hown3 hgr; have hb2 : Below w.heap.size w w2 := (by obtain ⟨cells, h1, _⟩ := hown2; exact hgr.below hbb hbb.size h1); clear hown1 hown2 hgr hA1 hbb hba hb)
      go_roundw
      case rel => exact ⟨n + 1, by omega, by go_num, by rw [HS.out]; exact hown3, hb2⟩
      case measure => simp [intOf]; omega
    · go_wp2
      go_ret
      have : n = 14 := by omega
      subst this
      exact ⟨_, rfl, by simpa [lev, nxt] using hown, hb⟩

theorem take_snocH (l : List (List Nat)) (n : Nat) (h : n < l.length) : l.take (n + 1) = l.take n ++ [l[n]?.getD []] := by
  rw [List.take_succ_eq_append_getElem h]; simp [h]
theorem nilBlock (k : Nat) : (Value.slice none 0 0).ownBlock ≠ some k := by simp [Value.ownBlock]

set_option maxRecDepth 100000 in
set_option maxHeartbeats 1000000 in
theorem longerHeads_any (hs : List (List Nat)) (v0 : Value) (v : Value) (w : World) (k : Nat) (hR : RdH w v0 v hs) (hM : ∀ l ∈ hs, l.length = k ∧ ∀ x ∈ l, x < 14) (hk : 0 < k) (hk2 : k ≤ 100) (hlen : hs.length ≤ 10000000) :
    Calls Tryd.prog 64 #[v] w fun r w' => ∃ v', r = .returned v' ∧ OwnH w' w.heap.size 68 v' (hs.flatMap (nxt cP)) ∧ Below w.heap.size w w' := by
  have HM : Hid _ := hM
  have hRw := hR
  obtain ⟨g, cap, rfl, _, hgl, hcells⟩ := hR
  have HCE : Hid _ := hcells
  clear hcells hM
  go_enter Tryd.func64, Tryd.ntmps64
  go_wp2
  go_loopw [3, 10] (fun v i wr => ∃ n : Nat, n ≤ hs.length ∧ i = .int .i64 n ∧ OwnH wr w.heap.size 68 v ((hs.take n).flatMap (nxt cP)) ∧ Below w.heap.size w wr) (fun _ i _ => hs.length - (intOf i).toNat)
  case atStart => exact ⟨0, Nat.zero_le _, rfl, OwnH.nil _ _ _, Below.refl _ _⟩
  case round =>
    obtain ⟨n, hn, rfl, hown, hb⟩ := hrel
    by_cases hlt : n < hs.length
    · obtain ⟨gi, ci, hc, _, hA⟩ := HCE.out n hlt
      have hmem := HM.out (hs[n]'hlt) (List.getElem_mem _)
      have hge : hs[n]?.getD [] = hs[n]'hlt := by simp [hlt]
      rw [← hge] at hmem
      have hcw : wr.cell? ⟨g, n, none⟩ = some (.slice (some ⟨gi, 0, none⟩) (hs[n]?.getD []).length ci) := (hb.cell (p := ⟨g, n, none⟩) hgl).trans hc
      have HT : Hid ((hs.take (n + 1)).flatMap (nxt cP) = (hs.take n).flatMap (nxt cP) ++ nxt cP (hs[n]?.getD [])) := by
        show _ = _
        rw [take_snocH hs n hlt, List.flatMap_append]; simp
      have hAL : ((hs.take n).flatMap (nxt cP)).length ≤ 14 * n := by
        have h1 := flatMap_length_le (hs.take n) (nxt cP) 14 fun x _ => nxtTo_length cP x 14
        have h2 : (hs.take n).length ≤ n := List.length_take_le _ _
        have h3 : (hs.take n).length * 14 ≤ n * 14 := Nat.mul_le_mul_right _ h2
        omega
      clear hge hc
      generalize hs[n]?.getD [] = h at *
      generalize (hs.take n).flatMap (nxt cP) = A at *
      have hhl := hmem.1
      have HEE : Hid _ := hmem.2
      have hh0 : 0 < h.length := by omega
      have hh1 : h.length ≤ 100 := by omega
      have HHL : Hid _ := hhl
      clear hmem hhl
      go_wp2
      go_loopw [3, 6] (fun v i wr2 => ∃ m : Nat, m ≤ 14 ∧ i = .int .i64 m ∧ OwnH wr2 w.heap.size 68 v (A ++ nxtTo cP h m) ∧ Below w.heap.size w wr2) (fun _ i _ => 14 - (intOf i).toNat)
      case atStart => exact ⟨0, Nat.zero_le _, rfl, by simpa [nxtTo] using hown, hb⟩
      case round =>
        clear hown hb
        obtain ⟨m, hm, rfl, hown, hb⟩ := hrel
        by_cases hmlt : m < 14
        · have hA2 : Arr wr gi 0 h := hA.kept hb
          have HN : Hid _ := nxtTo_succ cP h m
          have hnl := nxtTo_length cP h m
          have hAl2 : (A ++ nxtTo cP h m).length ≤ 1000000000 := by rw [List.length_append]; omega
          clear hcw
          cases hcf : cP h m
          · have HQ : Hid (A ++ nxtTo cP h (m + 1) = A ++ nxtTo cP h m) := by show _ = _; rw [HN.out, hcf]; simp
            go_wp2_with (go_at_call 76; refine (canFollow_any h gi ci m _ hA2 HEE.out hmlt hh0 (by omega)).mono ?_; rintro r w1 ⟨rfl, rfl⟩)
            go_roundw
            case rel => exact ⟨m + 1, by omega, by go_num, by rw [HQ.out]; exact hown, hb⟩
            case measure => simp [intOf]; omega
          · have HQ : Hid (A ++ nxtTo cP h (m + 1) = A ++ nxtTo cP h m ++ [h ++ [m]]) := by show _ = _; rw [HN.out, hcf, List.append_assoc]; rfl
            go_wp2_with (go_at_call 76; refine (canFollow_any h gi ci m _ hA2 HEE.out hmlt hh0 (by omega)).mono ?_; rintro r w1 ⟨rfl, rfl⟩)
            refine (rotated_any h gi 0 ci 0 _ hA2 (by omega) (Nat.zero_le _)).mono ?_
            rintro r w2 ⟨v2, rfl, hown2, hb2⟩
            rw [turn_zero] at hown2
            obtain ⟨hm', hhm⟩ : ∃ hm', hm' = h ++ [m] := ⟨_, rfl⟩
            rw [← hhm] at HQ
            have HHM : Hid _ := hhm
            have hhml : 0 < hm'.length := by rw [hhm]; simp
            clear hhm
            go_wp2_with (first | (at_builtin; refine wpList_pushN rfl (.tmp 24) (.tmp 26) 68 rfl w1.heap.size w1.heap.size w1 108 Tryd.underlying68 Tryd.infoEdge _ _ m (by rfl) (by rfl) hown2 (by omega) hb2 (Nat.le_refl _) hb2.size ?_; intro v3 w3 hown3 hb3 _; rw [← HHM.out] at hown3; obtain ⟨g3, c3, hv3, hg3, hG3⟩ := hown3.shape hhml; subst hv3; have hownH3 := hown.kept hb3; have hoff3 := hown.off hg3; have hbb3 := hb.trans (hb3.mono hb.size); have hbs := hb.size; clear hown2 hb2 hown3 hb3 hown hb) | (at_builtin; refine wpList_pushH rfl (.tmp 28) (.tmp 30) 110 rfl w.heap.size 68 Tryd.underlying110 Tryd.infoEdges _ _ hm' g3 c3 (by rfl) (by rfl) hownH3 hG3 (by omega) hoff3 hAl2 hbb3.size ?_; intro v4 w4 hown4 hgr; have hb4 := hownH3.below hgr hbb3 hbb3.size; clear hownH3 hgr hbb3 hG3))
            go_roundw
            case rel => exact ⟨m + 1, by omega, by go_num, by rw [HQ.out]; exact hown4, hb4⟩
            case measure => simp [intOf]; omega
        · have hme : m = 14 := by omega
          subst hme
          go_wp2
          go_roundw
          case rel => exact ⟨n + 1, by omega, by go_num, by rw [HT.out]; exact hown, hb⟩
          case measure => simp [intOf]; omega
    · have hne : n = hs.length := by omega
      subst hne
      rw [List.take_length] at hown
      go_wp2
      go_ret
      exact ⟨_, rfl, hown, hb⟩

end Go.Proofs.YtokfiflflcfidaaDoor
