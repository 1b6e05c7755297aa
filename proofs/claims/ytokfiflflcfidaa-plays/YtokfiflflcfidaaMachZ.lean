import Derived.Test.YtokfiflflcfidaaRows
import Derived.Test.YtokfiflflcfidaaPlain
import Derived.Test.YtokfiflflcfidaaMem
import Derived.Test.YtokfiflflcfidaaMachM
import Derived.Test.YtokfiflflcfidaaStM
import Derived.Test.YtokfiflflcfidaaMachW
import Derived.Test.YtokfiflflcfidaaMachB
import Derived.Test.YtokfiflflcfidaaMachX
import Derived.Test.YtokfiflflcfidaaMachY
import Derived.WalkKit
import Derived.WalkSpells
import Derived.WalkLawsBesides
import Derived.RegionTactic
import Derived.BigRegion
import Derived.Deep.QuietTactic
import Derived.BigQuiet
namespace Go.Proofs.Ytokfiflflcfidaa
open Go.RowKit

/-- the machine at M in state s; w0: the world that it was started in -/
def MachAt (w0 w : World) (M : Nat) (cv : Value) (model : Nat) (code : List (List RIns)) (s : St) : Prop :=
  ∃ L : MLoc, L.M = M ∧ MInv 82 84 3 54 w w0.heap.size L cv model code.length s.mem s.th ∧ Below w0.heap.size w0 w ∧ MOk code s.th
theorem MachAt.drew {w0 w : World} {M : Nat} {cv : Value} {model : Nat} {code : List (List RIns)} {s : St} (h : MachAt w0 w M cv model code s) (m : Nat) : MachAt w0 (w.drewN m) M cv model code s := by
  obtain ⟨L, h1, h2, h3, h4⟩ := h
  exact ⟨L, h1, h2.drew m, below_drewN h3 m, h4⟩
theorem MachAt.kept {w0 w w' : World} {M : Nat} {cv : Value} {model : Nat} {code : List (List RIns)} {s : St} (h : MachAt w0 w M cv model code s) (hb : Below w.heap.size w w') : MachAt w0 w' M cv model code s := by
  obtain ⟨L, h1, h2, h3, h4⟩ := h
  exact ⟨L, h1, h2.kept hb, h3.trans (hb.mono h3.size), h4⟩

theorem step_at (code : List (List RIns)) (s : St) (k model M : Nat) (cv : Value) (w0 w : World) (h : MachAt w0 w M cv model code s) (hC : CodesRd w0 cv code) (hS : SndC code) (hm : model = 0 ∨ model = 1) (hk : k < code.length) (hpc : (s.th k).pc < (code[k]?.getD []).length) :
    Calls Try.prog 62 #[.pointer (some ⟨M, 0, none⟩), .int .i64 k] w fun r w' => r = .returned (.tuple #[]) ∧ MachAt w0 w' M cv model code (stepS code model k s) := by
  obtain ⟨L, rfl, hI, hB, hO⟩ := h
  have hfin : ∀ r w', (r = Ending.returned (.tuple #[]) ∧ Moved 82 84 3 54 w w' w0.heap.size L cv model code.length (stpM (insOf code k (s.th k).pc) model s.mem) (updN s.th k (stpT (insOf code k (s.th k).pc) model s.mem s.th k))) → r = .returned (.tuple #[]) ∧ MachAt w0 w' L.M cv model code (stepS code model k s) := by
    rintro r w' ⟨h1, L', h2, h3, h4⟩
    exact ⟨h1, L', h2, h3, hB.trans h4, hO.step hS hk hpc model s.mem⟩
  rcases ((hS.2.2 k hk).2.2 _ hpc).2.2 with h1 | h2 | h3
  · rcases hm with hm | hm
    · exact (step_store0 code s.mem s.th k w0.heap.size model L cv w hI (hC.kept hB) hS hO hk hpc h1 hm).mono hfin
    · exact (step_store1 code s.mem s.th k w0.heap.size model L cv w hI (hC.kept hB) hS hO hk hpc h1 hm).mono hfin
  · exact (step_load code s.mem s.th k w0.heap.size model L cv w hI (hC.kept hB) hS hO hk hpc h2).mono hfin
  · exact (step_fence code s.mem s.th k w0.heap.size model L cv w hI (hC.kept hB) hS hO hk hpc h3).mono hfin

theorem drain_at (code : List (List RIns)) (s : St) (k model M : Nat) (cv : Value) (w0 w : World) (h : MachAt w0 w M cv model code s) (hS : SndC code) (hk : k < code.length) (hb : 0 < (s.th k).buf.length) :
    Calls Try.prog 63 #[.pointer (some ⟨M, 0, none⟩), .int .i64 k] w fun r w' => r = .returned (.tuple #[]) ∧ MachAt w0 w' M cv model code (drainS k s) := by
  obtain ⟨L, rfl, hI, hB, hO⟩ := h
  have hex : ∃ x l, (s.th k).buf = x :: l := by
    cases he : (s.th k).buf with
    | nil => rw [he] at hb; simp at hb
    | cons x l => exact ⟨x, l, rfl⟩
  obtain ⟨x, l, hx⟩ := hex
  have hc : x.cell < 16 := by
    have := (hO k hk).2.2.2 0 hb
    rw [hx] at this
    simpa using this
  have e : drainS k s = ⟨updN s.mem x.cell x.val, updN s.th k { s.th k with buf := l }⟩ := by unfold drainS; rw [hx]
  rw [e]
  refine (drain_any code s.mem s.th k w0.heap.size model L cv w hI hS hk x l hx hc).mono ?_
  rintro r w' ⟨h1, L', h2, h3, h4⟩
  exact ⟨h1, L', h2, h3, hB.trans h4, hO.drain hk hx⟩

set_option maxRecDepth 100000 in
set_option maxHeartbeats 1600000 in
theorem move_any (code : List (List RIns)) (s : St) (n model M : Nat) (cv : Value) (w0 w : World) (h : MachAt w0 w M cv model code s) (hC : CodesRd w0 cv code) (hS : SndC code) (hm : model = 0 ∨ model = 1) (hn : n < (mvs code s.th).length) :
    Calls Try.prog 38 #[.pointer (some ⟨M, 0, none⟩), .int .i64 n] w fun r w' => r = .returned (.tuple #[]) ∧ MachAt w0 w' M cv model code (moveN code model s n) := by
  have HSTEP : Hid (∀ w1 m, w1 = w.drewN m → ∀ k, k < code.length → (s.th k).pc < (code[k]?.getD []).length → Calls Try.prog 62 #[.pointer (some ⟨M, 0, none⟩), .int .i64 k] w1 fun r w' => r = .returned (.tuple #[]) ∧ MachAt w0 w' M cv model code (stepS code model k s)) :=
    fun w1 m hw1 k hk hpc => step_at code s k model M cv w0 w1 (by rw [hw1]; exact h.drew m) hC hS hm hk hpc
  have HDRAIN : Hid (∀ w1 m, w1 = w.drewN m → ∀ k, k < code.length → 0 < (s.th k).buf.length → Calls Try.prog 63 #[.pointer (some ⟨M, 0, none⟩), .int .i64 k] w1 fun r w' => r = .returned (.tuple #[]) ∧ MachAt w0 w' M cv model code (drainS k s)) :=
    fun w1 m hw1 k hk hb => drain_at code s k model M cv w0 w1 (by rw [hw1]; exact h.drew m) hS hk hb
  have hl16 := hS.2.1
  obtain ⟨L, rfl, hI, hB, hO⟩ := h
  have hCw := hC.kept hB
  have c3 := hI.c3
  have HN : Hid (n < (mvs code s.th).length) := hn
  have hn64 : n < 32 := by have := mvTo_length code s.th code.length; unfold mvs at hn; omega
  clear hn
  go_enter Try.func38, Try.ntmps38
  go_wp2
  go_loopw [1, 4] (fun q i wr => ∃ k : Nat, k ≤ code.length ∧ i = .int .i64 k ∧ (mvTo code s.th k).length ≤ n ∧ q = .int .i64 ((n - (mvTo code s.th k).length : Nat)) ∧ ∃ m, wr = w.drewN m) (fun _ i _ => code.length - (intOf i).toNat)
  case atStart => exact ⟨0, Nat.zero_le _, rfl, Nat.zero_le _, rfl, 0, rfl⟩
  case round =>
    obtain ⟨k, hk, rfl, hle, rfl, m, rfl⟩ := hrel
    have hml := mvTo_length code s.th k
    by_cases hlt : k < code.length
    · have t2 := hI.t2 k hlt
      obtain ⟨a, bc, hbv⟩ := (hI.cb k hlt).len
      rw [hbv] at t2
      have HCAN : Hid _ := can_any code s.mem s.th k w0.heap.size model L cv (w.drewN m) (hI.drew m) (hCw.drew m) hlt
      have HS : Hid (mvTo code s.th (k + 1) = (mvTo code s.th k ++ if canS code s.th k then [(k, false)] else []) ++ if (s.th k).buf.isEmpty then [] else [(k, true)]) := rfl
      have hbe : (s.th k).buf.isEmpty = decide ((s.th k).buf.length = 0) := by cases (s.th k).buf <;> simp
      rw [hbe] at HS
      have HST : Hid (canS code s.th k = true → n = (mvTo code s.th k).length → moveN code model s n = stepS code model k s) := by
        intro hc hnl
        have : (mvs code s.th)[n]? = some (k, false) := mvs_at code s.th (k := k + 1) hlt (by rw [HS.out, hc, hnl, List.getElem?_append_left (by simp)]; simp)
        unfold moveN
        rw [this]
        rfl
      have HDR : Hid (0 < (s.th k).buf.length → n = (mvTo code s.th k ++ if canS code s.th k then [(k, false)] else []).length → moveN code model s n = drainS k s) := by
        intro hb hnl
        have : (mvs code s.th)[n]? = some (k, true) := mvs_at code s.th (k := k + 1) hlt (by rw [HS.out, hnl, decide_eq_false (by omega)]; simp)
        unfold moveN
        rw [this]
        rfl
      have HPC : Hid (canS code s.th k = true → (s.th k).pc < (code[k]?.getD []).length) := canS_pc
      clear hbv hbe
      generalize hbl : (s.th k).buf.length = bl at *
      generalize hmk : mvTo code s.th k = mk at *
      obtain ⟨d, hd⟩ : ∃ d, n = mk.length + d := ⟨n - mk.length, by omega⟩
      have hd2 : n - mk.length = d := by omega
      rw [hd2]
      have hdb : d < 32 := by omega
      have HDR0 : Hid (canS code s.th k = false → 0 < bl → d = 0 → moveN code model s n = drainS k s) := fun hc hb h0 => HDR.out hb (by rw [hc]; simp; omega)
      have HDR1 : Hid (canS code s.th k = true → 0 < bl → d = 1 → moveN code model s n = drainS k s) := fun hc hb h0 => HDR.out hb (by rw [hc]; simp; omega)
      clear HDR hd2
      cases hc : canS code s.th k
      · have HC0 : Hid _ := HDR0.out hc
        by_cases hb : bl = 0
        · have hbi : ¬ ((0 : Int) < (bl : Int)) := by omega
          have HBE : Hid (bl = 0) := hb
          clear hb
          go_wp2_with fail
          refine Calls.mono HCAN.out ?_
          rintro r w2 ⟨rfl, m2, rfl⟩
          rw [hc]
          go_wp2
          go_roundw
          case rel =>
            have e : mvTo code s.th (k + 1) = mk := by rw [HS.out, hc, decide_eq_true HBE.out]; simp
            exact ⟨k + 1, by omega, by go_num, by rw [e]; omega, by rw [e]; congr 2; omega, _, rfl⟩
          case measure => simp [intOf]; omega
        · have hbi : ((0 : Int) < (bl : Int)) := by omega
          by_cases hd0 : d = 0
          · have hdi : ((d : Int) == 0) = true := by rw [beq_iff_eq]; omega
            have HMV : Hid _ := HC0.out (by omega) hd0
            clear hd0
            go_wp2_with fail
            refine Calls.mono HCAN.out ?_
            rintro r w2 ⟨rfl, m2, rfl⟩
            rw [hc]
            go_wp2_with fail
            refine Calls.mono (HDRAIN.out _ (m + m2) rfl k hlt (by rw [hbl]; omega)) ?_
            rintro r w2 ⟨rfl, hfin⟩
            go_wp2
            refine bodyPost_ret (results_none rfl _ _ _) rfl ?_
            exact ⟨rfl, by rw [HMV.out]; exact hfin⟩
          · have hdi : ((d : Int) == 0) = false := by rw [beq_eq_false_iff_ne]; omega
            go_wp2_with fail
            refine Calls.mono HCAN.out ?_
            rintro r w2 ⟨rfl, m2, rfl⟩
            rw [hc]
            go_wp2
            go_roundw
            case rel =>
              have e : mvTo code s.th (k + 1) = mk ++ [(k, true)] := by rw [HS.out, hc, decide_eq_false hb]; simp
              exact ⟨k + 1, by omega, by go_num, by rw [e]; simp; omega, by rw [e]; simp; omega, _, rfl⟩
            case measure => simp [intOf]; omega
      · by_cases hd0 : d = 0
        · have hdi : ((d : Int) == 0) = true := by rw [beq_iff_eq]; omega
          have HMV : Hid _ := HST.out hc (by omega)
          have HP1 : Hid _ := HPC.out hc
          clear hd0
          go_wp2_with fail
          refine Calls.mono HCAN.out ?_
          rintro r w2 ⟨rfl, m2, rfl⟩
          rw [hc]
          go_wp2_with fail
          refine Calls.mono (HSTEP.out _ (m + m2) rfl k hlt HP1.out) ?_
          rintro r w2 ⟨rfl, hfin⟩
          go_wp2
          refine bodyPost_ret (results_none rfl _ _ _) rfl ?_
          exact ⟨rfl, by rw [HMV.out]; exact hfin⟩
        · have hdi : ((d : Int) == 0) = false := by rw [beq_eq_false_iff_ne]; omega
          by_cases hb : bl = 0
          · have hbi : ¬ ((0 : Int) < (bl : Int)) := by omega
            have HBE : Hid (bl = 0) := hb
            clear hb
            go_wp2_with fail
            refine Calls.mono HCAN.out ?_
            rintro r w2 ⟨rfl, m2, rfl⟩
            rw [hc]
            go_wp2
            go_roundw
            case rel =>
              have e : mvTo code s.th (k + 1) = mk ++ [(k, false)] := by rw [HS.out, hc, decide_eq_true HBE.out]; simp
              exact ⟨k + 1, by omega, by go_num, by rw [e]; simp; omega, by rw [e]; simp; omega, _, rfl⟩
            case measure => simp [intOf]; omega
          · have hbi : ((0 : Int) < (bl : Int)) := by omega
            by_cases hd1 : d = 1
            · have HMV : Hid _ := HDR1.out hc (by omega) hd1
              subst hd1
              go_wp2_with fail
              refine Calls.mono HCAN.out ?_
              rintro r w2 ⟨rfl, m2, rfl⟩
              rw [hc]
              go_wp2_with fail
              refine Calls.mono (HDRAIN.out _ (m + m2) rfl k hlt (by rw [hbl]; omega)) ?_
              rintro r w2 ⟨rfl, hfin⟩
              go_wp2
              refine bodyPost_ret (results_none rfl _ _ _) rfl ?_
              exact ⟨rfl, by rw [HMV.out]; exact hfin⟩
            · have hdi2 : ((d : Int) - 1 == 0) = false := by rw [beq_eq_false_iff_ne]; omega
              go_wp2_with fail
              refine Calls.mono HCAN.out ?_
              rintro r w2 ⟨rfl, m2, rfl⟩
              rw [hc]
              go_wp2
              go_roundw
              case rel =>
                have e : mvTo code s.th (k + 1) = mk ++ [(k, false)] ++ [(k, true)] := by rw [HS.out, hc, decide_eq_false hb]; simp
                exact ⟨k + 1, by omega, by go_num, by rw [e]; simp; omega, by rw [e]; simp; omega, _, rfl⟩
              case measure => simp [intOf]; omega
    · exfalso
      have : k = code.length := by omega
      subst this
      have := HN.out
      unfold mvs at this
      omega

end Go.Proofs.Ytokfiflflcfidaa
