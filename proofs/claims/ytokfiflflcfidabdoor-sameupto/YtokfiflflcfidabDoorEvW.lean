import Derived.Test.YtokfiflflcfidabDoorRows
import Derived.Test.YtokfiflflcfidabDoorPlain
import Derived.Test.YtokfiflflcfidabDoorParse
import Derived.Test.YtokfiflflcfidabDoorMem
import Derived.Test.YtokfiflflcfidabDoorEvMem
import Derived.Test.YtokfiflflcfidabDoorPreds
import Derived.Test.YtokfiflflcfidabDoorRefA
import Derived.Test.YtokfiflflcfidabDoorParseW
import Derived.WalkKit
import Derived.WalkSpells
import Derived.WalkLawsBesides
import Derived.Deep.QuietTactic
import Derived.BigQuiet
namespace Go.Proofs.YtokfiflflcfidabDoor
open Go.RowKit

set_option maxRecDepth 100000 in
set_option maxHeartbeats 400000 in
theorem writes_any (l : List Ev) (b cap c : Nat) (w : World) (hA : EArr w b l) (hl2 : l.length ≤ 1000) :
    Calls Tryd.prog 32 #[.slice (some ⟨b, 0, none⟩) l.length cap, .int .i64 c] w fun r w' => r = .returned (.int .i64 (l.countP (isW c) : Nat)) ∧ w' = w := by
  go_enter Tryd.func32, Tryd.ntmps32
  go_wp2
  go_loop [5, 6] (fun o i => ∃ n : Nat, n ≤ l.length ∧ i = .int .i64 n ∧ o = .int .i64 ((l.take n).countP (isW c) : Nat)) (fun _ i => l.length - (intOf i).toNat)
  case atStart => exact ⟨0, Nat.zero_le _, rfl, rfl⟩
  case round =>
    obtain ⟨n, hn, rfl, rfl⟩ := hrel
    have h0 := countW_le (isW c) l n
    by_cases hlt : n < l.length
    · have E := hA.at hlt
      have h1 := E.wr
      have h2 := E.ce
      have HC : Hid _ := countW_succ (isW c) l n hlt
      have HW : Hid (isW c (l[n]?.getD ev0) = ((l[n]?.getD ev0).wr && (l[n]?.getD ev0).ce == c)) := rfl
      clear E
      generalize isW c (l[n]?.getD ev0) = iw at *
      generalize (l[n]?.getD ev0).wr = ew at *
      generalize (l[n]?.getD ev0).ce = ec at *
      generalize (l.take n).countP (isW c) = t at *
      cases ew
      · go_wp2
        go_round
        case rel => exact ⟨n + 1, by omega, by go_num, by rw [HC.out, HW.out]; simp⟩
        case measure => simp [intOf]; omega
      · by_cases hec : ec = c
        · subst hec
          go_wp2
          go_round
          case rel => exact ⟨n + 1, by omega, by go_num, by rw [HC.out, HW.out]; simp⟩
          case measure => simp [intOf]; omega
        · have hecI : ((ec : Int) == (c : Int)) = false := by rw [beq_eq_false_iff_ne]; omega
          have hecb : (ec == c) = false := by rw [beq_eq_false_iff_ne]; omega
          have HB : Hid _ := hecb
          clear hecb
          go_wp2
          go_round
          case rel => exact ⟨n + 1, by omega, by go_num, by rw [HC.out, HW.out, HB.out]; simp⟩
          case measure => simp [intOf]; omega
    · go_wp2
      go_ret
      have : n = l.length := by omega
      subst this
      simp

set_option maxRecDepth 100000 in
set_option maxHeartbeats 800000 in
theorem chain_any (l : List Ev) (b cap c : Nat) (w : World) (hA : EArr w b l) (hl : 0 < l.length) (hl2 : l.length ≤ 100) (hE : ∀ i, afOf l i < 14) (hmov : ∃ i, i < l.length ∧ lC (afOf l i) = true) :
    Calls Tryd.prog 61 #[.slice (some ⟨b, 0, none⟩) l.length cap, .int .i64 c] w fun r w' => ∃ v, r = .returned v ∧ Own w' w.heap.size 3 v (chain l c) ∧ Below w.heap.size w w' := by
  have HMV : Hid _ := hmov
  clear hmov
  go_enter Tryd.func61, Tryd.ntmps61
  go_wp2
  go_loopw [5, 7] (fun v i wr => ∃ n : Nat, n ≤ l.length ∧ i = .int .i64 n ∧ Own wr w.heap.size 3 v (chTo l c n) ∧ Below w.heap.size w wr) (fun _ i _ => l.length - (intOf i).toNat)
  case atStart => exact ⟨0, Nat.zero_le _, rfl, Own.nil _ _ _, Below.refl _ _⟩
  case round =>
    obtain ⟨n, hn, rfl, hown, hb⟩ := hrel
    by_cases hlt : n < l.length
    · have E := (hA.kept hb).at hlt
      have h1 := E.ce
      clear E
      obtain ⟨m, hm⟩ : ∃ m, m = (n + l.length - 1) % l.length := ⟨_, rfl⟩
      have hml : m < l.length := by rw [hm]; exact Nat.mod_lt _ hl
      have hmi : ((n : Int) + (l.length : Int) - 1) % (l.length : Int) = (m : Int) := by
        rw [hm, Int.natCast_emod, Int.natCast_sub (by omega)]; simp
      have E2 := (hA.kept hb).at hml
      have h2 := E2.af
      have he := hE m
      have HO : Hid (opens l c n = ((l[n]?.getD ev0).ce == c && lC (afOf l m))) := by rw [hm]; rfl
      have HC : Hid (chTo l c (n + 1) = chTo l c n ++ if opens l c n then segTo l.length n (runLen l n + 1) else []) := rfl
      have HM : Hid _ := hm
      have hcl := chTo_length l c n
      clear E2 hm
      unfold afOf at he HO
      generalize (l[m]?.getD ev0).af = a at *
      generalize (l[n]?.getD ev0).ce = ec at *
      by_cases hec : ec = c
      · cases hla : lC a
        · subst hec
          go_wp2_with (go_at_call 42; refine (moving_any a he _).mono ?_; rintro r w1 ⟨rfl, rfl⟩)
          go_roundw
          case rel => exact ⟨n + 1, by omega, by go_num, by rw [HC.out, HO.out, hla]; simpa using hown, hb⟩
          case measure => simp [intOf]; omega
        · subst hec
          have hlen : (chTo l ec n).length ≤ 1000000 := by
            have : n * (l.length + 1) ≤ 100 * 101 := Nat.mul_le_mul (by omega) (by omega)
            omega
          go_wp2_with (first | (go_at_call 42; refine (moving_any a he _).mono ?_; rintro r w1 ⟨rfl, rfl⟩) | (at_builtin; go_must (refine wpList_pushN rfl _ _ 25 rfl w.heap.size w.heap.size w 3 Tryd.underlying25 Tryd.infoInt _ _ n (by rfl) (by rfl) hown hlen hb (Nat.le_refl _) hb.size ?_); intro v' w2 hown1 hb1 _; clear hown hb h1 h2))
          have hrl := runLen_lt l n hlt HMV.out
          have HR : Hid (chTo l ec (n + 1) = chTo l ec n ++ segTo l.length n (runLen l n + 1)) := by show _ = _; rw [HC.out, HO.out, hla]; simp
          clear HC HO
          generalize hR : runLen l n = R at *
          have HRR : Hid _ := hR
          clear hR
          go_loopw [5, 8] (fun v j wr => ∃ m : Nat, m ≤ R ∧ j = .int .i64 ((n + m) % l.length : Nat) ∧ Own wr w.heap.size 3 v (chTo l ec n ++ segTo l.length n (m + 1)) ∧ Below w.heap.size w wr) (fun v _ _ => (chTo l ec n).length + 200 - lenV v)
          case atStart => exact ⟨0, by omega, by rw [Nat.add_zero, Nat.mod_eq_of_lt hlt], by rw [segTo_one _ _ hlt]; exact hown1, hb1⟩
          case round =>
            obtain ⟨m, hm, rfl, hown, hb⟩ := hrel
            have hlv := hown.lenV
            rw [List.length_append, segTo_length] at hlv
            have HLV : Hid _ := hlv
            clear hlv
            have hj : (n + m) % l.length < l.length := Nat.mod_lt _ hl
            have E := (hA.kept hb).at hj
            have h3 := E.af
            have he3 := hE ((n + m) % l.length)
            have hst := run_step l n m
            have hen := run_end l n (by rw [HRR.out]; exact hrl)
            rw [HRR.out] at hst hen
            have HST : Hid _ := hst
            have HEN : Hid _ := hen
            clear E hst hen
            have HS : Hid (chTo l ec n ++ segTo l.length n (m + 1 + 1) = chTo l ec n ++ segTo l.length n (m + 1) ++ [((n + m) % l.length + 1) % l.length]) := by
              show _ = _
              rw [segTo_succ _ _ (m + 1), List.append_assoc, ← Nat.add_assoc, Nat.mod_add_mod]
            have HQ : Hid ((n + (m + 1)) % l.length = ((n + m) % l.length + 1) % l.length) := by show _ = _; rw [Nat.mod_add_mod, Nat.add_assoc]
            have hln2 : (chTo l ec n ++ segTo l.length n (m + 1)).length ≤ 1000000 := by
              rw [List.length_append, segTo_length]
              have : n * (l.length + 1) ≤ 100 * 101 := Nat.mul_le_mul (by omega) (by omega)
              omega
            unfold afOf at he3 HST HEN
            by_cases hmR : m < R
            · have hla3 := HST.out hmR
              generalize (n + m) % l.length = j at *
              generalize (l[j]?.getD ev0).af = a3 at *
              obtain ⟨j2, hj2⟩ : ∃ j2, j2 = (j + 1) % l.length := ⟨_, rfl⟩
              have hj2i : ((j : Int) + 1) % (l.length : Int) = (j2 : Int) := by rw [hj2]; simp
              have HJ2 : Hid _ := hj2
              clear hj2
              go_wp2_with (first | (go_at_call 42; refine (moving_any a3 he3 _).mono ?_; rintro r w1 ⟨rfl, rfl⟩) | (at_builtin; go_must (refine wpList_pushN rfl _ _ 25 rfl w.heap.size w.heap.size w 3 Tryd.underlying25 Tryd.infoInt _ _ j2 (by rfl) (by rfl) hown hln2 hb (Nat.le_refl _) hb.size ?_); intro v2 w3 hown3 hb3 _; clear hown hb h3))
              go_roundw
              case rel => exact ⟨m + 1, by omega, by rw [HQ.out, ← HJ2.out, hj2i], by rw [HS.out, ← HJ2.out]; exact hown3, hb3⟩
              case measure =>
                have hlv2 := hown3.lenV
                rw [List.length_append, List.length_append, segTo_length] at hlv2
                have := HLV.out
                simp at hlv2
                omega
            · have hmE : m = R := by omega
              subst hmE
              have hla3 := HEN.out
              generalize (n + m) % l.length = j at *
              generalize (l[j]?.getD ev0).af = a3 at *
              go_wp2_with (go_at_call 42; refine (moving_any a3 he3 _).mono ?_; rintro r w1 ⟨rfl, rfl⟩)
              go_roundw
              case rel => exact ⟨n + 1, by omega, by go_num, by rw [HR.out]; exact hown, hb⟩
              case measure => simp [intOf]; omega
      · have hecI : ((ec : Int) == (c : Int)) = false := by rw [beq_eq_false_iff_ne]; omega
        have hecb : (ec == c) = false := by rw [beq_eq_false_iff_ne]; omega
        have HB : Hid _ := hecb
        clear hecb
        go_wp2
        go_roundw
        case rel => exact ⟨n + 1, by omega, by go_num, by rw [HC.out, HO.out, HB.out]; simpa using hown, hb⟩
        case measure => simp [intOf]; omega
    · go_wp2
      go_ret
      have : n = l.length := by omega
      subst this
      exact ⟨_, rfl, hown, hb⟩

end Go.Proofs.YtokfiflflcfidabDoor
