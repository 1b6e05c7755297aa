import Derived.Test.YtokfiflflcfidaaRows
import Derived.Test.YtokfiflflcfidaaPlain
import Derived.Test.YtokfiflflcfidaaMem
import Derived.Test.YtokfiflflcfidaaMachM
import Derived.WalkKit
import Derived.WalkSpells
import Derived.WalkLawsBesides
import Derived.Deep.QuietTactic
import Derived.BigQuiet
namespace Go.Proofs.Ytokfiflflcfidaa
open Go.RowKit

set_option maxRecDepth 100000 in
set_option maxHeartbeats 800000 in
theorem can_any (code : List (List RIns)) (mem : Nat → Nat) (th : Nat → Th) (k base model : Nat) (L : MLoc) (cv : Value) (w : World) (hI : MInv 82 84 3 54 w base L cv model code.length mem th)
    (hC : CodesRd w cv code) (hk : k < code.length) :
    Calls Try.prog 61 #[.pointer (some ⟨L.M, 0, none⟩), .int .i64 k] w fun r w' => r = .returned (.bool (canS code th k)) ∧ ∃ m, w' = w.drewN m := by
  have c0 := hI.c0
  have c3 := hI.c3
  have t0 := hI.t0 k hk
  have t2 := hI.t2 k hk
  obtain ⟨a, bc, hbv⟩ := (hI.cb k hk).len
  rw [hbv] at t2
  obtain ⟨_, cb, co, cc, rfl, _, hcc⟩ := hC
  obtain ⟨vk, hvk, _, ib, io, ic, rfl, _, hins⟩ := hcc k hk
  have HC : Hid (canS code th k = (decide ((th k).pc < (code[k]?.getD []).length) && (!((insOf code k (th k).pc).op == 3) || (th k).buf.isEmpty))) := rfl
  have HI : Hid (∀ i, i < (code[k]?.getD []).length → w.cell? ⟨ib, io + i * 4, none⟩ = some (.int .i64 ((insOf code k i).op : Int))) := fun i hi => (hins i hi).op
  have hbe : (th k).buf.isEmpty = decide ((th k).buf.length = 0) := by cases (th k).buf <;> simp
  rw [hbe] at HC
  clear hI hbv hcc hins hbe
  generalize (th k).buf.length = bl at *
  generalize (th k).pc = pc at *
  by_cases h1 : pc < (code[k]?.getD []).length
  · have hi := HI.out pc h1
    generalize (insOf code k pc).op = op at *
    generalize (code[k]?.getD []).length = cl at *
    rw [decide_eq_true h1, Bool.true_and] at HC
    have hd1 : ¬ ((cl : Int) ≤ (pc : Int)) := by omega
    by_cases h3 : op = 3
    · subst h3
      have HC2 : Hid (canS code th k = decide (bl = 0)) := by show _ = _; rw [HC.out]; rfl
      by_cases h0 : bl = 0
      · have h0i : ((bl : Int) == 0) = true := by rw [beq_iff_eq]; omega
        have HZ : Hid _ := h0
        clear h0
        go_enter Try.func61, Try.ntmps61
        go_wp2
        go_quiet (fail)
        go_wp2
        go_quiet (fail)
        go_wp2
        go_ret
        exact ⟨by rw [HC2.out, decide_eq_true HZ.out]; rfl, _, by rw [World.drewN_drewN]⟩
      · have h0i : ((bl : Int) == 0) = false := by rw [beq_eq_false_iff_ne]; omega
        go_enter Try.func61, Try.ntmps61
        go_wp2
        go_quiet (fail)
        go_wp2
        go_quiet (fail)
        go_wp2
        go_ret
        exact ⟨by rw [HC2.out, decide_eq_false h0]; rfl, _, by rw [World.drewN_drewN]⟩
    · have h3i : ((op : Int) != 3) = true := by rw [bne_iff_ne]; omega
      have HC2 : Hid (canS code th k = true) := by
        show _ = _
        rw [HC.out, show (op == 3) = false from by rw [beq_eq_false_iff_ne]; exact h3]; rfl
      go_enter Try.func61, Try.ntmps61
      go_wp2
      go_quiet (fail)
      go_wp2
      go_quiet (fail)
      go_wp2
      go_ret
      exact ⟨by rw [HC2.out]; rfl, _, by rw [World.drewN_drewN]⟩
  · have HC2 : Hid (canS code th k = false) := by show _ = _; rw [HC.out, decide_eq_false h1]; rfl
    generalize (code[k]?.getD []).length = cl at *
    have hd1 : ((cl : Int) ≤ (pc : Int)) := by omega
    go_enter Try.func61, Try.ntmps61
    go_wp2
    go_quiet (fail)
    go_wp2
    go_ret
    exact ⟨by rw [HC2.out]; rfl, _, rfl⟩

set_option maxRecDepth 100000 in
set_option maxHeartbeats 800000 in
theorem moves_any (code : List (List RIns)) (mem : Nat → Nat) (th : Nat → Th) (base model : Nat) (L : MLoc) (cv : Value) (w : World) (hI : MInv 82 84 3 54 w base L cv model code.length mem th)
    (hC : CodesRd w cv code) (hS : SndC code) :
    Calls Try.prog 37 #[.pointer (some ⟨L.M, 0, none⟩)] w fun r w' => r = .returned (.int .i64 ((mvs code th).length : Nat)) ∧ ∃ m, w' = w.drewN m := by
  have c3 := hI.c3
  have hl16 := hS.2.1
  go_enter Try.func37, Try.ntmps37
  go_wp2
  go_loopw [3, 4] (fun c i wr => ∃ k : Nat, k ≤ code.length ∧ i = .int .i64 k ∧ c = .int .i64 ((mvTo code th k).length : Nat) ∧ ∃ m, wr = w.drewN m) (fun _ i _ => code.length - (intOf i).toNat)
  case atStart => exact ⟨0, Nat.zero_le _, rfl, rfl, 0, rfl⟩
  case round =>
    obtain ⟨k, hk, rfl, rfl, m, rfl⟩ := hrel
    have hml := mvTo_length code th k
    by_cases hlt : k < code.length
    · have t2 := hI.t2 k hlt
      obtain ⟨a, bc, hbv⟩ := (hI.cb k hlt).len
      rw [hbv] at t2
      have hcan := can_any code mem th k base model L cv (w.drewN m) (hI.drew m) (hC.drew m) hlt
      have HCAN : Hid _ := hcan
      have HS : Hid (mvTo code th (k + 1) = (mvTo code th k ++ if canS code th k then [(k, false)] else []) ++ if (th k).buf.isEmpty then [] else [(k, true)]) := rfl
      have hbe : (th k).buf.isEmpty = decide ((th k).buf.length = 0) := by cases (th k).buf <;> simp
      rw [hbe] at HS
      clear hbv hcan hbe
      generalize (th k).buf.length = bl at *
      generalize (mvTo code th k) = mk at *
      by_cases hb0 : bl = 0
      · have hb0i : ¬ ((0 : Int) < (bl : Int)) := by omega
        rw [decide_eq_true hb0] at HS
        have HZ : Hid _ := hb0
        clear hb0
        cases hc : canS code th k
        · go_wp2_with fail
          refine Calls.mono HCAN.out ?_
          rintro r w2 ⟨rfl, m2, rfl⟩
          rw [hc]
          go_wp2
          go_roundw
          case rel => exact ⟨k + 1, by omega, by go_num, by rw [HS.out, hc]; simp, _, rfl⟩
          case measure => simp [intOf]; omega
        · go_wp2_with fail
          refine Calls.mono HCAN.out ?_
          rintro r w2 ⟨rfl, m2, rfl⟩
          rw [hc]
          go_wp2
          go_roundw
          case rel => exact ⟨k + 1, by omega, by go_num, by rw [HS.out, hc]; simp, _, rfl⟩
          case measure => simp [intOf]; omega
      · have hb0i : ((0 : Int) < (bl : Int)) := by omega
        rw [decide_eq_false hb0] at HS
        cases hc : canS code th k
        · go_wp2_with fail
          refine Calls.mono HCAN.out ?_
          rintro r w2 ⟨rfl, m2, rfl⟩
          rw [hc]
          go_wp2
          go_roundw
          case rel => exact ⟨k + 1, by omega, by go_num, by rw [HS.out, hc]; simp, _, rfl⟩
          case measure => simp [intOf]; omega
        · go_wp2_with fail
          refine Calls.mono HCAN.out ?_
          rintro r w2 ⟨rfl, m2, rfl⟩
          rw [hc]
          go_wp2
          go_roundw
          case rel => exact ⟨k + 1, by omega, by go_num, by rw [HS.out, hc]; simp; omega, _, rfl⟩
          case measure => simp [intOf]; omega
    · go_wp2
      go_ret
      have : k = code.length := by omega
      subst this
      exact ⟨rfl, m, rfl⟩

set_option maxRecDepth 100000 in
set_option maxHeartbeats 800000 in
theorem load_any (code : List (List RIns)) (mem : Nat → Nat) (th : Nat → Th) (k c base model : Nat) (L : MLoc) (cv : Value) (w : World) (hI : MInv 82 84 3 54 w base L cv model code.length mem th)
    (hS : SndC code) (hO : MOk code th) (hk : k < code.length) (hc : c < 16) :
    Calls Try.prog 80 #[.pointer (some ⟨L.M, 0, none⟩), .int .i64 k, .int .i64 c] w fun r w' => r = .returned (.int .i64 (loadS mem th k c : Nat)) ∧ w' = w := by
  have c2 := hI.c2
  have c3 := hI.c3
  have t2 := hI.t2 k hk
  have hbuf := hI.cb k hk
  obtain ⟨a, bc, hbv⟩ := hbuf.len
  rw [hbv] at t2
  have hbl : (th k).buf.length ≤ 32 := by have h1 := (hO k hk); have h2 := (hS.2.2 k hk).2.1; omega
  have hmc := hI.cm c hc
  have HL : Hid (loadS mem th k c = (ldTo (th k).buf c (th k).buf.length).getD (mem c)) := rfl
  have HB : Hid (∀ i, i < (th k).buf.length → ∃ b off, a = some ⟨b, off, none⟩ ∧ InsAt w b (off + i * 4) ((th k).buf[i]?.getD rins0)) := by
    intro i hi
    rcases hbuf with ⟨_, h2⟩ | ⟨b, off, cap, h1, _, h5, _⟩
    · rw [h2] at hi; simp at hi
    · rw [hbv] at h1
      simp only [Value.slice.injEq] at h1
      exact ⟨b, off, h1.1, h5 i hi⟩
  have hl16 := hS.2.1
  clear hbuf hbv
  generalize mem c = mc at *
  generalize (th k).buf = buf at *
  go_enter Try.func80, Try.ntmps80
  go_wp2
  go_loop [8] (fun i => ∃ j : Nat, j ≤ buf.length ∧ i = .int .i64 ((j : Int) - 1) ∧ ldTo buf c buf.length = ldTo buf c j) (fun i => (intOf i + 1).toNat)
  case atStart => exact ⟨buf.length, Nat.le_refl _, rfl, rfl⟩
  case round =>
    obtain ⟨j, hj, rfl, hq⟩ := hrel
    have HQ : Hid _ := hq
    clear hq
    cases j with
    | zero =>
      go_wp2
      go_ret
      refine ⟨?_, rfl⟩
      rw [HL.out, HQ.out]; rfl
    | succ j =>
      obtain ⟨b, off, rfl, hins⟩ := HB.out j (by omega)
      have e1 : ((j + 1 : Nat) : Int) - 1 = (j : Int) := by omega
      rw [e1]
      have h2 := hins.cell
      have h3 := hins.val
      have HT : Hid (ldTo buf c (j + 1) = if (buf[j]?.getD rins0).cell = c then some (buf[j]?.getD rins0).val else ldTo buf c j) := rfl
      clear hins e1
      generalize (buf[j]?.getD rins0).cell = jc at *
      generalize (buf[j]?.getD rins0).val = jv at *
      by_cases hjc : jc = c
      · subst hjc
        go_wp2
        go_ret
        refine ⟨?_, rfl⟩
        rw [HL.out, HQ.out, HT.out]; rfl
      · have hjci : ((jc : Int) == (c : Int)) = false := by rw [beq_eq_false_iff_ne]; omega
        have HNE : Hid _ := hjc
        clear hjc
        go_wp2
        go_round
        case rel => exact ⟨j, by omega, rfl, by rw [HQ.out, HT.out, if_neg HNE.out]⟩
        case measure => simp [intOf]

end Go.Proofs.Ytokfiflflcfidaa
