import Derived.Test.YtokfiflflcfidabDoorRows
import Derived.Test.YtokfiflflcfidabDoorPlain
import Derived.Test.YtokfiflflcfidabDoorMem
import Derived.Test.YtokfiflflcfidabDoorMachM
import Derived.Test.YtokfiflflcfidabDoorStM
import Derived.Test.YtokfiflflcfidabDoorMachW
import Derived.Test.YtokfiflflcfidabDoorMachB
import Derived.Test.YtokfiflflcfidabDoorMachX
import Derived.Test.YtokfiflflcfidabDoorMachY
import Derived.WalkKit
import Derived.WalkSpells
import Derived.WalkLawsBesides
import Derived.RegionTactic
import Derived.BigRegion
import Derived.Deep.QuietTactic
import Derived.BigQuiet
import Derived.Test.YtokfiflflcfidabDoorEvMem
import Derived.Deep.RegionLaw
import Derived.Test.YtokfiflflcfidabDoorMachE
import Derived.Test.YtokfiflflcfidabDoorScr
import Derived.Deep.CutRange
namespace Go.Proofs.YtokfiflflcfidabDoor
open Go.RowKit

/-- the machine at M in state s; w0: the world that it was started in -/
def MachAt (w0 w : World) (M : Nat) (cv : Value) (model : Nat) (code : List (List RIns)) (s : St) : Prop :=
  ∃ L : MLoc, L.M = M ∧ MInv 82 85 3 98 w w0.heap.size L cv model code.length s.mem s.th ∧ Below w0.heap.size w0 w ∧ MOk code s.th
theorem MachAt.drew {w0 w : World} {M : Nat} {cv : Value} {model : Nat} {code : List (List RIns)} {s : St} (h : MachAt w0 w M cv model code s) (m : Nat) : MachAt w0 (w.drewN m) M cv model code s := by
  obtain ⟨L, h1, h2, h3, h4⟩ := h
  exact ⟨L, h1, h2.drew m, below_drewN h3 m, h4⟩
theorem MachAt.kept {w0 w w' : World} {M : Nat} {cv : Value} {model : Nat} {code : List (List RIns)} {s : St} (h : MachAt w0 w M cv model code s) (hb : Below w.heap.size w w') : MachAt w0 w' M cv model code s := by
  obtain ⟨L, h1, h2, h3, h4⟩ := h
  exact ⟨L, h1, h2.kept hb, h3.trans (hb.mono h3.size), h4⟩

theorem step_at (code : List (List RIns)) (s : St) (k model M : Nat) (cv : Value) (w0 w : World) (h : MachAt w0 w M cv model code s) (hC : CodesRd w0 cv code) (hS : SndC code) (hm : model = 0 ∨ model = 1) (hk : k < code.length) (hpc : (s.th k).pc < (code[k]?.getD []).length) :
    Calls Tryd.prog 65 #[.pointer (some ⟨M, 0, none⟩), .int .i64 k] w fun r w' => r = .returned (.tuple #[]) ∧ MachAt w0 w' M cv model code (stepS code model k s) := by
  obtain ⟨L, rfl, hI, hB, hO⟩ := h
  have hfin : ∀ r w', (r = Ending.returned (.tuple #[]) ∧ Moved 82 85 3 98 w w' w0.heap.size L cv model code.length (stpM (insOf code k (s.th k).pc) model s.mem) (updN s.th k (stpT (insOf code k (s.th k).pc) model s.mem s.th k))) → r = .returned (.tuple #[]) ∧ MachAt w0 w' L.M cv model code (stepS code model k s) := by
    rintro r w' ⟨h1, L', h2, h3, h4⟩
    exact ⟨h1, L', h2, h3, hB.trans h4, hO.step hS hk hpc model s.mem⟩
  rcases ((hS.2.2 k hk).2.2 _ hpc).2.2 with h1 | h2 | h3
  · rcases hm with hm | hm
    · exact (step_store0 code s.mem s.th k w0.heap.size model L cv w hI (hC.kept hB) hS hO hk hpc h1 hm).mono hfin
    · exact (step_store1 code s.mem s.th k w0.heap.size model L cv w hI (hC.kept hB) hS hO hk hpc h1 hm).mono hfin
  · exact (step_load code s.mem s.th k w0.heap.size model L cv w hI (hC.kept hB) hS hO hk hpc h2).mono hfin
  · exact (step_fence code s.mem s.th k w0.heap.size model L cv w hI (hC.kept hB) hS hO hk hpc h3).mono hfin

theorem drain_at (code : List (List RIns)) (s : St) (k model M : Nat) (cv : Value) (w0 w : World) (h : MachAt w0 w M cv model code s) (hS : SndC code) (hk : k < code.length) (hb : 0 < (s.th k).buf.length) :
    Calls Tryd.prog 66 #[.pointer (some ⟨M, 0, none⟩), .int .i64 k] w fun r w' => r = .returned (.tuple #[]) ∧ MachAt w0 w' M cv model code (drainS k s) := by
  obtain ⟨L, rfl, hI, hB, hO⟩ := h
  have hex : ∃ x l, (s.th k).buf = x :: l := by
    cases he : (s.th k).buf with
    | nil => rw [he] at hb; simp at hb
    | cons x l => exact ⟨x, l, rfl⟩
  obtain ⟨x, l, hx⟩ := hex
  have hc : x.cell < 16 := by
    have := (hO k hk).2.2.2 0 hb
    rw [hx] at this
    simpa using this
  have e : drainS k s = ⟨updN s.mem x.cell x.val, updN s.th k { s.th k with buf := l }⟩ := by unfold drainS; rw [hx]
  rw [e]
  refine (drain_any code s.mem s.th k w0.heap.size model L cv w hI hS hk x l hx hc).mono ?_
  rintro r w' ⟨h1, L', h2, h3, h4⟩
  exact ⟨h1, L', h2, h3, hB.trans h4, hO.drain hk hx⟩

set_option maxRecDepth 100000 in
set_option maxHeartbeats 1600000 in
theorem move_any (code : List (List RIns)) (s : St) (n model M : Nat) (cv : Value) (w0 w : World) (h : MachAt w0 w M cv model code s) (hC : CodesRd w0 cv code) (hS : SndC code) (hm : model = 0 ∨ model = 1) (hn : n < (mvs code s.th).length) :
    Calls Tryd.prog 36 #[.pointer (some ⟨M, 0, none⟩), .int .i64 n] w fun r w' => r = .returned (.tuple #[]) ∧ MachAt w0 w' M cv model code (moveN code model s n) := by
  have HSTEP : Hid (∀ w1 m, w1 = w.drewN m → ∀ k, k < code.length → (s.th k).pc < (code[k]?.getD []).length → Calls Tryd.prog 65 #[.pointer (some ⟨M, 0, none⟩), .int .i64 k] w1 fun r w' => r = .returned (.tuple #[]) ∧ MachAt w0 w' M cv model code (stepS code model k s)) :=
    fun w1 m hw1 k hk hpc => step_at code s k model M cv w0 w1 (by rw [hw1]; exact h.drew m) hC hS hm hk hpc
  have HDRAIN : Hid (∀ w1 m, w1 = w.drewN m → ∀ k, k < code.length → 0 < (s.th k).buf.length → Calls Tryd.prog 66 #[.pointer (some ⟨M, 0, none⟩), .int .i64 k] w1 fun r w' => r = .returned (.tuple #[]) ∧ MachAt w0 w' M cv model code (drainS k s)) :=
    fun w1 m hw1 k hk hb => drain_at code s k model M cv w0 w1 (by rw [hw1]; exact h.drew m) hS hk hb
  have hl16 := hS.2.1
  obtain ⟨L, rfl, hI, hB, hO⟩ := h
  have hCw := hC.kept hB
  have c3 := hI.c3
  have HN : Hid (n < (mvs code s.th).length) := hn
  have hn64 : n < 32 := by have := mvTo_length code s.th code.length; unfold mvs at hn; omega
  clear hn
  go_enter Tryd.func36, Tryd.ntmps36
  go_wp2
  go_loopw [1, 4] (fun q i wr => ∃ k : Nat, k ≤ code.length ∧ i = .int .i64 k ∧ (mvTo code s.th k).length ≤ n ∧ q = .int .i64 ((n - (mvTo code s.th k).length : Nat)) ∧ ∃ m, wr = w.drewN m) (fun _ i _ => code.length - (intOf i).toNat)
  case atStart => exact ⟨0, Nat.zero_le _, rfl, Nat.zero_le _, rfl, 0, rfl⟩
  case round =>
    obtain ⟨k, hk, rfl, hle, rfl, m, rfl⟩ := hrel
    have hml := mvTo_length code s.th k
    by_cases hlt : k < code.length
    · have t2 := hI.t2 k hlt
      obtain ⟨a, bc, hbv⟩ := (hI.cb k hlt).len
      rw [hbv] at t2
      have HCAN : Hid _ := can_any code s.mem s.th k w0.heap.size model L cv (w.drewN m) (hI.drew m) (hCw.drew m) hlt
      have HS : Hid (mvTo code s.th (k + 1) = (mvTo code s.th k ++ if canS code s.th k then [(k, false)] else []) ++ if (s.th k).buf.isEmpty then [] else [(k, true)]) := rfl
      have hbe : (s.th k).buf.isEmpty = decide ((s.th k).buf.length = 0) := by cases (s.th k).buf <;> simp
      rw [hbe] at HS
      have HST : Hid (canS code s.th k = true → n = (mvTo code s.th k).length → moveN code model s n = stepS code model k s) := by
        intro hc hnl
        have : (mvs code s.th)[n]? = some (k, false) := mvs_at code s.th (k := k + 1) hlt (by rw [HS.out, hc, hnl, List.getElem?_append_left (by simp)]; simp)
        unfold moveN
        rw [this]
        rfl
      have HDR : Hid (0 < (s.th k).buf.length → n = (mvTo code s.th k ++ if canS code s.th k then [(k, false)] else []).length → moveN code model s n = drainS k s) := by
        intro hb hnl
        have : (mvs code s.th)[n]? = some (k, true) := mvs_at code s.th (k := k + 1) hlt (by rw [HS.out, hnl, decide_eq_false (by omega)]; simp)
        unfold moveN
        rw [this]
        rfl
      have HPC : Hid (canS code s.th k = true → (s.th k).pc < (code[k]?.getD []).length) := canS_pc
      clear hbv hbe
      generalize hbl : (s.th k).buf.length = bl at *
      generalize hmk : mvTo code s.th k = mk at *
      obtain ⟨d, hd⟩ : ∃ d, n = mk.length + d := ⟨n - mk.length, by omega⟩
      have hd2 : n - mk.length = d := by omega
      rw [hd2]
      have hdb : d < 32 := by omega
      have HDR0 : Hid (canS code s.th k = false → 0 < bl → d = 0 → moveN code model s n = drainS k s) := fun hc hb h0 => HDR.out hb (by rw [hc]; simp; omega)
      have HDR1 : Hid (canS code s.th k = true → 0 < bl → d = 1 → moveN code model s n = drainS k s) := fun hc hb h0 => HDR.out hb (by rw [hc]; simp; omega)
      clear HDR hd2
      cases hc : canS code s.th k
      · have HC0 : Hid _ := HDR0.out hc
        by_cases hb : bl = 0
        · have hbi : ¬ ((0 : Int) < (bl : Int)) := by omega
          have HBE : Hid (bl = 0) := hb
          clear hb
          go_wp2_with fail
          refine Calls.mono HCAN.out ?_
          rintro r w2 ⟨rfl, m2, rfl⟩
          rw [hc]
          go_wp2
          go_roundw
          case rel =>
            have e : mvTo code s.th (k + 1) = mk := by rw [HS.out, hc, decide_eq_true HBE.out]; simp
            exact ⟨k + 1, by omega, by go_num, by rw [e]; omega, by rw [e]; congr 2; omega, _, rfl⟩
          case measure => simp [intOf]; omega
        · have hbi : ((0 : Int) < (bl : Int)) := by omega
          by_cases hd0 : d = 0
          · have hdi : ((d : Int) == 0) = true := by rw [beq_iff_eq]; omega
            have HMV : Hid _ := HC0.out (by omega) hd0
            clear hd0
            go_wp2_with fail
            refine Calls.mono HCAN.out ?_
            rintro r w2 ⟨rfl, m2, rfl⟩
            rw [hc]
            go_wp2_with fail
            refine Calls.mono (HDRAIN.out _ (m + m2) rfl k hlt (by rw [hbl]; omega)) ?_
            rintro r w2 ⟨rfl, hfin⟩
            go_wp2
            refine bodyPost_ret (results_none rfl _ _ _) rfl ?_
            exact ⟨rfl, by rw [HMV.out]; exact hfin⟩
          · have hdi : ((d : Int) == 0) = false := by rw [beq_eq_false_iff_ne]; omega
            go_wp2_with fail
            refine Calls.mono HCAN.out ?_
            rintro r w2 ⟨rfl, m2, rfl⟩
            rw [hc]
            go_wp2
            go_roundw
            case rel =>
              have e : mvTo code s.th (k + 1) = mk ++ [(k, true)] := by rw [HS.out, hc, decide_eq_false hb]; simp
              exact ⟨k + 1, by omega, by go_num, by rw [e]; simp; omega, by rw [e]; simp; omega, _, rfl⟩
            case measure => simp [intOf]; omega
      · by_cases hd0 : d = 0
        · have hdi : ((d : Int) == 0) = true := by rw [beq_iff_eq]; omega
          have HMV : Hid _ := HST.out hc (by omega)
          have HP1 : Hid _ := HPC.out hc
          clear hd0
          go_wp2_with fail
          refine Calls.mono HCAN.out ?_
          rintro r w2 ⟨rfl, m2, rfl⟩
          rw [hc]
          go_wp2_with fail
          refine Calls.mono (HSTEP.out _ (m + m2) rfl k hlt HP1.out) ?_
          rintro r w2 ⟨rfl, hfin⟩
          go_wp2
          refine bodyPost_ret (results_none rfl _ _ _) rfl ?_
          exact ⟨rfl, by rw [HMV.out]; exact hfin⟩
        · have hdi : ((d : Int) == 0) = false := by rw [beq_eq_false_iff_ne]; omega
          by_cases hb : bl = 0
          · have hbi : ¬ ((0 : Int) < (bl : Int)) := by omega
            have HBE : Hid (bl = 0) := hb
            clear hb
            go_wp2_with fail
            refine Calls.mono HCAN.out ?_
            rintro r w2 ⟨rfl, m2, rfl⟩
            rw [hc]
            go_wp2
            go_roundw
            case rel =>
              have e : mvTo code s.th (k + 1) = mk ++ [(k, false)] := by rw [HS.out, hc, decide_eq_true HBE.out]; simp
              exact ⟨k + 1, by omega, by go_num, by rw [e]; simp; omega, by rw [e]; simp; omega, _, rfl⟩
            case measure => simp [intOf]; omega
          · have hbi : ((0 : Int) < (bl : Int)) := by omega
            by_cases hd1 : d = 1
            · have HMV : Hid _ := HDR1.out hc (by omega) hd1
              subst hd1
              go_wp2_with fail
              refine Calls.mono HCAN.out ?_
              rintro r w2 ⟨rfl, m2, rfl⟩
              rw [hc]
              go_wp2_with fail
              refine Calls.mono (HDRAIN.out _ (m + m2) rfl k hlt (by rw [hbl]; omega)) ?_
              rintro r w2 ⟨rfl, hfin⟩
              go_wp2
              refine bodyPost_ret (results_none rfl _ _ _) rfl ?_
              exact ⟨rfl, by rw [HMV.out]; exact hfin⟩
            · have hdi2 : ((d : Int) - 1 == 0) = false := by rw [beq_eq_false_iff_ne]; omega
              go_wp2_with fail
              refine Calls.mono HCAN.out ?_
              rintro r w2 ⟨rfl, m2, rfl⟩
              rw [hc]
              go_wp2
              go_roundw
              case rel =>
                have e : mvTo code s.th (k + 1) = mk ++ [(k, false)] ++ [(k, true)] := by rw [HS.out, hc, decide_eq_false hb]; simp
                exact ⟨k + 1, by omega, by go_num, by rw [e]; simp; omega, by rw [e]; simp; omega, _, rfl⟩
              case measure => simp [intOf]; omega
    · exfalso
      have : k = code.length := by omega
      subst this
      have := HN.out
      unfold mvs at this
      omega

end Go.Proofs.YtokfiflflcfidabDoor

namespace Go.Proofs.YtokfiflflcfidabDoor
open Go.RowKit


def zero16 : Array Value := Array.replicate 16 (.int .i64 0)
theorem zero16_size : zero16.size = 16 := by simp [zero16]
theorem zero16_at {c : Nat} (hc : c < 16) : zero16[c]? = some (.int .i64 0) := by simp [zero16, hc]
theorem Tryd.make16 (w : World) : (Instr.makeSlice 25 (.int .i64 16) (.int .i64 16)).run Tryd.prog w = .ok (.slice (some ⟨w.heap.size, 0, none⟩) 16 16) (w.alloc (.cells zero16 3)) := by kernel_rfl

/-- the cells of k fresh threads -/
def thCells (gr : Nat → Nat) (k : Nat) : List Value := (List.range k).flatMap fun j => [.int .i64 0, .slice (some ⟨gr j, 0, none⟩) 16 16, .slice none 0 0]
theorem thCells_succ (gr : Nat → Nat) (k : Nat) : thCells gr (k + 1) = thCells gr k ++ [.int .i64 0, .slice (some ⟨gr k, 0, none⟩) 16 16, .slice none 0 0] := by simp [thCells, List.range_succ]
theorem thCells_congr {gr gr' : Nat → Nat} {k : Nat} (h : ∀ j, j < k → gr j = gr' j) : thCells gr k = thCells gr' k := by
  induction k with
  | zero => rfl
  | succ k ih => rw [thCells_succ, thCells_succ, ih (fun j hj => h j (by omega)), h k (by omega)]
theorem thCells_length (gr : Nat → Nat) (k : Nat) : (thCells gr k).length = k * 3 := by
  induction k with
  | zero => rfl
  | succ k ih => rw [thCells_succ, List.length_append, ih]; simp; omega
theorem thCells_at (gr : Nat → Nat) {k j i : Nat} (hj : j < k) (hi : i < 3) : (thCells gr k)[j * 3 + i]? = [Value.int .i64 0, .slice (some ⟨gr j, 0, none⟩) 16 16, .slice none 0 0][i]? := by
  induction k with
  | zero => omega
  | succ k ih =>
    rw [thCells_succ]
    by_cases hjk : j < k
    · rw [List.getElem?_append_left (by rw [thCells_length]; omega)]; exact ih hjk
    · have : j = k := by omega
      subst this
      rw [List.getElem?_append_right (by rw [thCells_length]; omega), thCells_length]
      congr 1
      omega
theorem own_slice {w : World} {base e size n : Nat} {v : Value} {xs : List Value} (h : w.ownsRow base e size v (n + 1) xs) : ∃ g cap, v = .slice (some ⟨g, 0, none⟩) (n + 1) cap := by
  rcases h.2 with ⟨_, h0⟩ | ⟨g, cap, cur, rfl, _⟩
  · omega
  · exact ⟨g, cap, rfl⟩

/-- a machine under way: k threads laid -/
structure StInv (w wr : World) (cv : Value) (model k : Nat) (v : Value) (gr : Nat → Nat) : Prop where
  below : Below w.heap.size w wr
  big : w.heap.size + 3 ≤ wr.heap.size
  box : wr.cell? ⟨w.heap.size, 1, none⟩ = some cv
  hM : wr.heap[w.heap.size + 2]? = some (.cells #[cv, .int .i64 (model : Int), .slice (some ⟨w.heap.size + 1, 0, none⟩) 16 16, v] 82 (0, 0))
  hm : wr.heap[w.heap.size + 1]? = some (.cells zero16 3 (0, 0))
  own : wr.ownsRow (w.heap.size + 3) 85 3 v k (thCells gr k)
  hr : ∀ j, j < k → w.heap.size + 3 ≤ gr j ∧ wr.heap[gr j]? = some (.cells zero16 3 (0, 0))
  dist : ∀ i j, i < k → j < k → i ≠ j → gr i ≠ gr j

theorem StInv.step {w wr : World} {cv : Value} {model k : Nat} {v : Value} {gr : Nat → Nat} (h : StInv w wr cv model k v gr) (o : Obj) (v' : Value) (w4 : World)
    (hown : w4.ownsRow (w.heap.size + 3) 85 3 v' (k + 1) (thCells gr k ++ [.int .i64 0, .slice (some ⟨wr.heap.size, 0, none⟩) 16 16, .slice none 0 0]))
    (hg : (((wr.alloc (.cells zero16 3)).alloc o).drewN 1).grownBy w4 v.ownBlock) (hne : ∀ b, v.ownBlock = some b → w.heap.size + 3 ≤ b ∧ ∃ cur, wr.heap[b]? = some (.cells cur 85 (0, 0))) :
    w4.cell? ⟨w.heap.size + 2, 3, none⟩ = some v ∧ w4.frozen? ⟨w.heap.size + 2, 3, none⟩ = false ∧ ∀ m, StInv w ((w4.setCell ⟨w.heap.size + 2, 3, none⟩ v').drewN m) cv model (k + 1) v' (updN gr k wr.heap.size) := by
  have hb1 : Below wr.heap.size wr (((wr.alloc (.cells zero16 3)).alloc o).drewN 1) := below_drewN (((Below.refl _ _).alloc (Nat.le_refl _) _).alloc (by simp) _) 1
  have hsz : (((wr.alloc (.cells zero16 3)).alloc o).drewN 1).heap.size = wr.heap.size + 2 := by simp
  have keep : ∀ b, b < wr.heap.size → v.ownBlock ≠ some b → w4.heap[b]? = wr.heap[b]? := fun b hb hn => (hg.block b (by omega) (fun e => hn e.symm)).trans (hb1.block b hb)
  have hbig := h.big
  have hMo : v.ownBlock ≠ some (w.heap.size + 2) := fun e => by have := (hne _ e).1; omega
  have hmo : v.ownBlock ≠ some (w.heap.size + 1) := fun e => by have := (hne _ e).1; omega
  have hBo : v.ownBlock ≠ some w.heap.size := fun e => by have := (hne _ e).1; omega
  have kM : w4.heap[w.heap.size + 2]? = some (.cells #[cv, .int .i64 (model : Int), .slice (some ⟨w.heap.size + 1, 0, none⟩) 16 16, v] 82 (0, 0)) := (keep _ (by omega) hMo).trans h.hM
  have kR : w4.heap[wr.heap.size]? = some (.cells zero16 3 (0, 0)) := by
    rw [hg.block wr.heap.size (by omega) (fun e => by
      obtain ⟨cur, hcur⟩ := (hne _ e.symm).2
      have := (Array.getElem?_eq_some_iff.1 hcur).1
      omega)]
    have e1 : (((wr.alloc (.cells zero16 3)).alloc o).drewN 1).heap[wr.heap.size]? = (wr.alloc (.cells zero16 3)).heap[wr.heap.size]? := Below.heap_alloc _ o _ (by simp)
    rw [e1]
    exact heap_alloc_new wr _
  have hro : ∀ j, j < k → v.ownBlock ≠ some (gr j) := fun j hj e => by
    obtain ⟨cur, hcur⟩ := (hne _ e).2
    rw [(h.hr j hj).2] at hcur
    simp at hcur
  have hsz4 : w4.heap.size ≥ wr.heap.size + 2 := by have := hg.size; omega
  refine ⟨?_, frozen_of_row _ _ _ _ _ kM, fun m => ?_⟩
  · rw [cell_of_row w4 _ 3 _ _ _ kM]; rfl
  have setk : ∀ b, b ≠ w.heap.size + 2 → ((w4.setCell ⟨w.heap.size + 2, 3, none⟩ v').drewN m).heap[b]? = w4.heap[b]? := fun b hb => Below.heap_setCell w4 ⟨w.heap.size + 2, 3, none⟩ v' b hb
  have hgrk : ∀ j, j < k → gr j < wr.heap.size := fun j hj => (Array.getElem?_eq_some_iff.1 (h.hr j hj).2).1
  exact {
    below := below_drewN ((h.below.trans ⟨hg.os.trans hb1.os, hg.tape.trans hb1.tape, hg.output.trans hb1.output, by omega, fun b hb => keep b (by omega) (fun e => by have := (hne _ e).1; omega)⟩).setCell (p := ⟨w.heap.size + 2, 3, none⟩) (by simp) v') m
    big := by show _ ≤ (w4.setCell _ _).heap.size; simp; omega
    box := by
      have e1 : ((w4.setCell ⟨w.heap.size + 2, 3, none⟩ v').drewN m).cell? ⟨w.heap.size, 1, none⟩ = w4.cell? ⟨w.heap.size, 1, none⟩ := World.cell?_of_block (setk w.heap.size (by omega))
      rw [e1, World.cell?_of_block (keep w.heap.size (by omega) hBo)]
      exact h.box
    hM := by
      have := heap_setCell_same w4 (w.heap.size + 2) 3 _ _ v' kM
      exact this
    hm := by rw [setk _ (by omega), keep _ (by omega) hmo]; exact h.hm
    own := by
      have e1 : thCells (updN gr k wr.heap.size) (k + 1) = thCells gr k ++ [.int .i64 0, .slice (some ⟨wr.heap.size, 0, none⟩) 16 16, .slice none 0 0] := by
        rw [thCells_succ, updN_same, thCells_congr (fun j hj => updN_other gr wr.heap.size (by omega))]
      rw [e1]
      refine ⟨hown.1, ?_⟩
      rcases hown.2 with ⟨_, h0⟩ | ⟨g, cap, cur, e, g1, g2, g3⟩
      · omega
      · refine Or.inr ⟨g, cap, cur, e, g1, ?_, g3⟩
        rw [setk g (by omega)]
        exact g2
    hr := fun j hj => by
      by_cases hjk : j = k
      · subst hjk
        rw [updN_same, setk _ (by omega)]
        exact ⟨by omega, kR⟩
      · have hj' : j < k := by omega
        have h1 := (h.hr j hj').1
        rw [updN_other _ _ hjk, setk _ (by omega), keep _ (hgrk j hj') (hro j hj')]
        exact h.hr j hj'
    dist := fun i j hi hj hij => by
      by_cases hik : i = k
      · subst hik
        rw [updN_same, updN_other _ _ (Ne.symm hij)]
        have := hgrk j (by omega)
        omega
      · by_cases hjk : j = k
        · subst hjk
          rw [updN_same, updN_other _ _ hik]
          have := hgrk i (by omega)
          omega
        · rw [updN_other _ _ hik, updN_other _ _ hjk]
          exact h.dist i j (by omega) (by omega) hij }

theorem StInv.init (w : World) (nv wv cv : Value) (T model m : Nat) : StInv w ((((w.alloc (.cells #[nv, cv, wv] T)).alloc (.cells zero16 3)).alloc (.cells #[cv, .int .i64 (model : Int), .slice (some ⟨w.heap.size + 1, 0, none⟩) 16 16, .slice none 0 0] 82)).drewN m) cv model 0 (.slice none 0 0) (fun _ => 0) where
  below := below_drewN ((((Below.refl _ _).alloc (Nat.le_refl _) _).alloc (by simp) _).alloc (by simp; omega) _) m
  big := by simp
  box := by
    have e1 : ((((w.alloc (.cells #[nv, cv, wv] T)).alloc (.cells zero16 3)).alloc (.cells #[cv, .int .i64 (model : Int), .slice (some ⟨w.heap.size + 1, 0, none⟩) 16 16, .slice none 0 0] 82)).drewN m).heap[w.heap.size]? = some (.cells #[nv, cv, wv] T (0, 0)) :=
      (Below.heap_alloc _ _ _ (by simp; omega)).trans ((Below.heap_alloc _ _ _ (by simp)).trans (heap_alloc_new w _))
    rw [cell_of_row _ _ 1 _ _ _ e1]; rfl
  hM := by
    have := heap_alloc_new ((w.alloc (.cells #[nv, cv, wv] T)).alloc (.cells zero16 3)) (.cells #[cv, .int .i64 (model : Int), .slice (some ⟨w.heap.size + 1, 0, none⟩) 16 16, .slice none 0 0] 82)
    simp only [World.size_alloc] at this
    exact this
  hm := by
    have h1 := heap_alloc_new (w.alloc (.cells #[nv, cv, wv] T)) (.cells zero16 3)
    have h2 : (((w.alloc (.cells #[nv, cv, wv] T)).alloc (.cells zero16 3)).alloc (.cells #[cv, .int .i64 (model : Int), .slice (some ⟨w.heap.size + 1, 0, none⟩) 16 16, .slice none 0 0] 82)).heap[w.heap.size + 1]? = _ := Below.heap_alloc _ _ _ (by simp)
    simp only [World.size_alloc] at h1
    exact h2.trans h1
  own := World.ownsRow_nil _ _ _ _
  hr := fun j hj => by omega
  dist := fun i j hi => by omega

theorem StInv.mach {w wr : World} {cv : Value} {model : Nat} {v : Value} {gr : Nat → Nat} {code : List (List RIns)} (h : StInv w wr cv model code.length v gr) (h0 : 0 < code.length) : MachAt w wr (w.heap.size + 2) cv model code st0 := by
  have hown := h.own
  rcases hown.2 with ⟨_, h1⟩ | ⟨g, cap, cur, rfl, g1, g2, g3⟩
  · omega
  have hc : ∀ j i u, j < code.length → i < 3 → [Value.int .i64 0, .slice (some ⟨gr j, 0, none⟩) 16 16, .slice none 0 0][i]? = some u → wr.cell? ⟨g, j * 3 + i, none⟩ = some u := by
    intro j i u hj hi hu
    have := hown.cells (g := g) rfl (j * 3 + i) u ((thCells_at gr hj hi).trans hu)
    rw [addr_add, Nat.zero_add] at this
    exact this
  refine ⟨⟨w.heap.size + 2, w.heap.size + 1, g, cap, gr, fun _ => .slice none 0 0⟩, rfl, ?_, h.below, fun k hk => ⟨Nat.zero_le _, by simp [st0], Nat.zero_le _, fun i hi => by simp [st0] at hi⟩⟩
  exact {
    types := by decide
    bM := by simp
    bm := by simp
    bt := by simp; omega
    br := fun k hk => by have := (h.hr k hk).1; simp; omega
    bb := fun k b hk e => by simp [Value.ownBlock] at e
    kM := ⟨_, h.hM⟩
    km := ⟨_, h.hm⟩
    kt := ⟨_, g2⟩
    kr := fun k hk => ⟨_, (h.hr k hk).2⟩
    kb := fun k b hk e => by simp [Value.ownBlock] at e
    c0 := by rw [cell_of_row _ _ 0 _ _ _ h.hM]; rfl
    c1 := by rw [cell_of_row _ _ 1 _ _ _ h.hM]; rfl
    c2 := by rw [cell_of_row _ _ 2 _ _ _ h.hM]; rfl
    c3 := by rw [cell_of_row _ _ 3 _ _ _ h.hM]; rfl
    cm := fun c hc => by rw [cell_of_row _ _ c _ _ _ h.hm]; exact zero16_at hc
    t0 := fun k hk => hc k 0 _ hk (by omega) rfl
    t1 := fun k hk => hc k 1 _ hk (by omega) rfl
    t2 := fun k hk => hc k 2 _ hk (by omega) rfl
    cr := fun k r hk hr => by
      rw [cell_of_row _ _ r _ _ _ (h.hr k hk).2]
      have e : ((st0.th k).regs[r]?.getD 0 : Nat) = 0 := by
        show ((List.replicate 16 0)[r]?.getD 0) = 0
        rw [List.getElem?_replicate, if_pos hr]
        rfl
      rw [e]
      exact zero16_at hr
    cb := fun k hk => Or.inl ⟨rfl, rfl⟩
    dmr := fun k hk => by have := (h.hr k hk).1; simp; omega
    drr := h.dist
    dbb := fun k j b hk hj hkj e => by simp [Value.ownBlock] at e }

theorem Tryd.infoThread : (Tryd.prog.info? 85).map (fun i => (i.zero, i.size, i.bytes)) = some (some (.agg #[.int .i64 0, .slice none 0 0, .slice none 0 0]), 3, 56) := by kernel_rfl
theorem th_one (R : Nat) : ∀ u ∈ [Value.int .i64 0, .slice (some ⟨R, 0, none⟩) 16 16, .slice none 0 0], u.oneCell' = true := by
  intro u hu
  simp at hu
  rcases hu with rfl | rfl | rfl <;> rfl
theorem th_new (w : World) (T R n : Nat) (hn : w.heap.size = n) (m : Nat) (j : Nat) (u : Value) (h : [Value.int .i64 0, .slice (some ⟨R, 0, none⟩) 16 16, .slice none 0 0][j]? = some u) : ((w.alloc (.cells #[.int .i64 0, .slice (some ⟨R, 0, none⟩) 16 16, .slice none 0 0] T)).drewN m).cell? ((⟨n, 0, none⟩ : Addr).add j) = some u := by
  subst hn
  rw [addr_add]
  match j, h with
  | 0, h => simp at h; subst h; simp
  | 1, h => simp at h; subst h; simp
  | 2, h => simp at h; subst h; simp

set_option maxRecDepth 100000 in
set_option maxHeartbeats 800000 in
theorem start_any (code : List (List RIns)) (model : Nat) (nv : ByteArray) (cv : Value) (wa : Option Addr) (wl wc : Nat) (w : World) (hC : CodesRd w cv code) (hS : SndC code) :
    Calls Tryd.prog 34 #[.agg #[.string nv, cv, .slice wa wl wc], .int .i64 model] w fun r w' => ∃ M, r = .returned (.pointer (some ⟨M, 0, none⟩)) ∧ MachAt w w' M cv model code st0 := by
  have HC : Hid _ := hC
  obtain ⟨_, cb, co, cc, rfl, hcbl, hcc⟩ := hC
  clear hcc
  have hmk := Tryd.make16
  go_enter Tryd.func34, Tryd.ntmps34
  go_wp2
  go_region
  go_wp2
  go_loopw [6] (fun i wr => ∃ (k : Nat) (gr : Nat → Nat) (v : Value), k ≤ code.length ∧ i = .int .i64 k ∧ StInv w wr (.slice (some ⟨cb, co, none⟩) code.length cc) model k v gr) (fun i _ => code.length - (intOf i).toNat)
  case atStart =>
    exact ⟨0, fun _ => 0, .slice none 0 0, Nat.zero_le _, rfl, StInv.init w _ _ _ _ model 1⟩
  case round =>
    obtain ⟨k, gr, v, hk, rfl, hinv⟩ := hrel
    have hbox := hinv.box
    have hbig := hinv.big
    have c3 : wr.cell? ⟨w.heap.size + 1 + 1, 3, none⟩ = some v := by rw [cell_of_row wr _ 3 _ _ _ hinv.hM]; rfl
    have hMl : w.heap.size + 1 + 1 < wr.heap.size := by omega
    have hM2 : ¬ (w.heap.size + 1 + 1 = wr.heap.size) := by omega
    have hM3 : ¬ (w.heap.size + 1 = wr.heap.size) := by omega
    have hM4 : ¬ (w.heap.size = wr.heap.size) := by omega
    have hM5 : w.heap.size + 1 < wr.heap.size := by omega
    have hM6 : w.heap.size < wr.heap.size := by omega
    have hM7 : w.heap.size + 1 + 1 < wr.heap.size + 1 := by omega
    have hl16 := hS.2.1
    have HINV : Hid _ := hinv
    have hown := hinv.own
    have HNE : Hid (∀ b, v.ownBlock = some b → w.heap.size + 3 ≤ b ∧ ∃ cur, wr.heap[b]? = some (.cells cur 85 (0, 0))) := by
      intro b hb
      rcases hown.2 with ⟨rfl, _⟩ | ⟨g, cap, cur, rfl, g1, g2, _⟩
      · simp [Value.ownBlock] at hb
      · simp [Value.ownBlock] at hb
        subst hb
        exact ⟨g1, cur, g2⟩
    have HOWN : Hid (wr.ownsRow (w.heap.size + 3) 85 3 v k (thCells gr k)) := hown
    clear hinv hown
    by_cases hlt : k < code.length
    · obtain ⟨i0, hi, hz0, hz1, hz2⟩ := info_parts Tryd.infoThread
      go_wp2
      go_region_law ((refine step_append_own rfl (.tmp 24) (.tmp 27) 80 rfl (w.heap.size + 3) 85 i0 _ 3 56 Tryd.underlying80 hi hz0 hz1 hz2 rfl (by decide) v k (thCells gr k) (by simp [Act.eval]) (by exact ((World.ownsRow.alloc (World.ownsRow.alloc HOWN.out _) _)).drew) ⟨wr.heap.size + 1, 0, none⟩ 1 1 [.int .i64 0, .slice (some ⟨wr.heap.size, 0, none⟩) 16 16, .slice none 0 0] (by simp [Act.eval]) rfl (by exact th_new (wr.alloc _) _ _ _ (by simp) 1) (th_one _) (by unfold maxLen; omega) (by omega) (by simp; omega) ?_; intro v' w4 hown3 hgr; obtain ⟨g', cap', hv'⟩ := own_slice hown3; subst hv'; obtain ⟨s1, s2, hnext⟩ := StInv.step HINV.out _ _ w4 hown3 hgr HNE.out; have s3 : w4.cell? ⟨w.heap.size + 1 + 1, 3, none⟩ = some v := s1; have s4 : w4.frozen? ⟨w.heap.size + 1 + 1, 3, none⟩ = false := s2; have HNX : Hid _ := hnext; clear hown3 hgr hnext s1 s2))
      all_goals go_wp2
      all_goals go_roundw
      all_goals first | exact ⟨k + 1, _, _, hlt, by go_num, HNX.out 0⟩ | (simp [intOf]; omega)
    · go_wp2
      go_ret
      have hke : k = code.length := by omega
      subst hke
      exact ⟨w.heap.size + 2, rfl, HINV.out.mach hS.1⟩

end Go.Proofs.YtokfiflflcfidabDoor

namespace Go.Proofs.YtokfiflflcfidabDoor
open Go.RowKit

set_option maxRecDepth 100000 in
set_option maxHeartbeats 800000 in
theorem pick_any (c : Int) (hc : -9223372036854775808 ≤ c ∧ c ≤ 9223372036854775807) (n : Nat) (hn : 0 < n ∧ n ≤ 32) (w : World) :
    Calls Tryd.prog 37 #[.int .i64 c, .int .i64 n] w fun r w' => r = .returned (.int .i64 (pickN c n : Nat)) ∧ w' = w := by
  have HP : Hid (((pickN c n : Nat) : Int) = (if c < 0 then -(c + 1) else c) % (n : Int)) := by
    show _ = _
    unfold pickN
    have h1 := Int.emod_nonneg (if c < 0 then -(c + 1) else c) (by omega : (n : Int) ≠ 0)
    omega
  have hn0 : ¬ ((n : Int) = 0) := by omega
  have hnn : ¬ (n = 0) := by omega
  obtain ⟨hc1, hc2⟩ := hc
  by_cases h : c < 0
  · go_enter Tryd.func37, Tryd.ntmps37
    go_wp2
    go_ret
    refine ⟨?_, rfl⟩
    show Ending.returned (Value.int .i64 (-((c + 1).tmod (n : Int)))) = _
    rw [HP.out, if_pos h, ← Int.neg_tmod, Int.tmod_eq_emod_of_nonneg (by omega)]
  · go_enter Tryd.func37, Tryd.ntmps37
    go_wp2
    go_ret
    refine ⟨?_, rfl⟩
    show Ending.returned (Value.int .i64 (c % (n : Int))) = _
    rw [HP.out, if_neg (by omega)]

theorem moves_at (code : List (List RIns)) (s : St) (model M : Nat) (cv : Value) (w0 w : World) (h : MachAt w0 w M cv model code s) (hC : CodesRd w0 cv code) (hS : SndC code) :
    Calls Tryd.prog 35 #[.pointer (some ⟨M, 0, none⟩)] w fun r w' => r = .returned (.int .i64 ((mvs code s.th).length : Nat)) ∧ MachAt w0 w' M cv model code s := by
  have h' := h
  obtain ⟨L, rfl, hI, hB, hO⟩ := h
  refine (moves_any code s.mem s.th w0.heap.size model L cv w hI (hC.kept hB) hS).mono ?_
  rintro r w' ⟨h1, m, rfl⟩
  exact ⟨h1, h'.drew m⟩

/-- 'l = append(l, e...)', l of the call's own: numbers -/
theorem wpList_pushL {P : Program} {wr : World} {ops : Array Oper} {rest : List Oper} {o : Oper} {a : Act} {Q : Exit → Act → World → Prop} (hgd : o.guard = none) (s x : Operand) (t : TypeId)
    (ho : o.op = .call { callee := .builtin .append, args := #[s, x], argTypes := #[t, t] })
    (B base : Nat) (w0 : World) (T : TypeId) (ht : P.underlying t = some (.slice T)) (hinfo : (P.info? T).map (fun i => (i.zero, i.size, i.bytes)) = some (some (.int .i64 0), 1, 8))
    (v : Value) (l e : List Nat) (g off m c : Nat) (hm : m = e.length) (hs : a.eval s = v) (hx : a.eval x = .slice (some ⟨g, off, none⟩) m c) (hA : ∀ j, j < e.length → wr.cell? ⟨g, off + j, none⟩ = some (.int .i64 ((e[j]?.getD 0 : Nat) : Int)))
    (hown : Own wr base T v l) (hlen : l.length + e.length ≤ 1000000) (hb : Below B w0 wr) (hB : B ≤ base) (hbase : base ≤ wr.heap.size)
    (h : ∀ v' w', Own w' base T v' (l ++ e) → Below B w0 w' → wr.heap.size ≤ w'.heap.size → wpList P ops Q rest (a.put o.dst v') w') :
    wpList P ops Q (o :: rest) a wr := by
  obtain ⟨i0, hi, hz0, hz1, hz2⟩ := info_parts hinfo
  subst hm
  refine wpList_append_own _ hgd s x t ho base T i0 (.int .i64 0) 1 8 ht hi hz0 hz1 hz2 rfl (by decide) v l.length (nums l) hs hown ⟨g, off, none⟩ e.length c (nums e) hx (by rw [nums_length]; omega) ?_ ?_ (by unfold maxLen; omega) (by omega) hbase ?_
  · intro j u hu
    rw [addr_add]
    have hj : j < e.length := by have := (List.getElem?_eq_some_iff.1 hu).1; rwa [nums_length] at this
    rw [hA j hj]
    simp only [nums, List.getElem?_map, List.getElem?_eq_getElem hj] at hu
    rw [List.getElem?_eq_getElem hj]
    exact hu
  · intro u hu
    simp only [nums, List.mem_map] at hu
    obtain ⟨y, _, rfl⟩ := hu
    rfl
  · intro v' w' h1 h2 _
    refine h v' w' ?_ ?_ h2.size
    · have e1 : nums l ++ nums e = nums (l ++ e) := by simp [nums]
      rw [e1] at h1
      show w'.ownsRow base T 1 v' (l ++ e).length (nums (l ++ e))
      rw [List.length_append]
      exact h1
    · exact hb.grown h2 (by omega) (fun k hk => Nat.le_trans hB (hown.lt k hk).1)

theorem Tryd.infoIntM : (Tryd.prog.info? 3).map (fun i => (i.zero, i.size, i.bytes)) = some (some (.int .i64 0), 1, 8) := by kernel_rfl
set_option maxRecDepth 100000 in
set_option maxHeartbeats 1600000 in
theorem play_any (code : List (List RIns)) (want : List RCl) (script : List Int) (model : Nat) (nv : ByteArray) (cv wv sv : Value) (w : World) (hC : CodesRd w cv code) (hS : SndC code) (hm : model = 0 ∨ model = 1)
    (hW : WantRd w wv want) (hSW : SndW code.length want) (hR : ScrRd w sv script) (hlen : script.length ≤ 9223372036854775807) :
    Calls Tryd.prog 13 #[.agg #[.string nv, cv, wv], .int .i64 model, sv] w fun r w' => ∃ v, r = .returned (.tuple #[v, .bool (metS code.length want (endS code.length (playS code model script)))]) ∧ Own w' w.heap.size 3 v (endS code.length (playS code model script)) ∧ Below w.heap.size w w' := by
  have hC0 := hC
  have hW0 := hW
  obtain ⟨_, cb, co, cc, rfl, hcbl, hcc⟩ := hC
  obtain ⟨wa, wcap, rfl, hwc⟩ := hW
  obtain ⟨sa, scap, rfl, hsc⟩ := hR
  clear hcc hwc
  have hb1 : Below w.heap.size w (w.alloc (.cells #[.string nv, .slice (some ⟨cb, co, none⟩) code.length cc, .slice wa want.length wcap] 33)) := (Below.refl _ _).alloc (Nat.le_refl _) _
  have HST : Hid _ := start_any code model nv _ wa want.length wcap _ (hC0.kept hb1) hS
  have HC1 : Hid _ := hC0.kept hb1
  go_enter Tryd.func13, Tryd.ntmps13
  go_upto_region 1 with (fail)
  go_cut [8] from 15 to 17 (fun m wr => ∃ M, m = .pointer (some ⟨M, 0, none⟩) ∧ MachAt (w.alloc (.cells #[.string nv, .slice (some ⟨cb, co, none⟩) code.length cc, .slice wa want.length wcap] 33)) wr M (.slice (some ⟨cb, co, none⟩) code.length cc) model code st0)
  case first =>
    go_wp2_with fail
    refine Calls.mono HST.out ?_
    rintro r w2 ⟨M, rfl, hM⟩
    have HM : Hid _ := hM
    clear hM
    go_wp2
    go_meet
    exact ⟨M, rfl, HM.out⟩
  case rest =>
    obtain ⟨M, rfl, hM⟩ := hcut
    have HM : Hid _ := hM
    clear hM
    have HMV : Hid (∀ s wr, MachAt (w.alloc (.cells #[.string nv, .slice (some ⟨cb, co, none⟩) code.length cc, .slice wa want.length wcap] 33)) wr M (.slice (some ⟨cb, co, none⟩) code.length cc) model code s → Calls Tryd.prog 35 #[.pointer (some ⟨M, 0, none⟩)] wr fun r w' => r = .returned (.int .i64 ((mvs code s.th).length : Nat)) ∧ MachAt (w.alloc (.cells #[.string nv, .slice (some ⟨cb, co, none⟩) code.length cc, .slice wa want.length wcap] 33)) w' M (.slice (some ⟨cb, co, none⟩) code.length cc) model code s) :=
      fun s wr h => moves_at code s model M _ _ wr h HC1.out hS
    have HMO : Hid (∀ s wr n, n < (mvs code s.th).length → MachAt (w.alloc (.cells #[.string nv, .slice (some ⟨cb, co, none⟩) code.length cc, .slice wa want.length wcap] 33)) wr M (.slice (some ⟨cb, co, none⟩) code.length cc) model code s → Calls Tryd.prog 36 #[.pointer (some ⟨M, 0, none⟩), .int .i64 n] wr fun r w' => r = .returned (.tuple #[]) ∧ MachAt (w.alloc (.cells #[.string nv, .slice (some ⟨cb, co, none⟩) code.length cc, .slice wa want.length wcap] 33)) w' M (.slice (some ⟨cb, co, none⟩) code.length cc) model code (moveN code model s n)) :=
      fun s wr n hn h => move_any code s n model M _ _ wr h HC1.out hS hm hn
    have HML : Hid (∀ s : St, (mvs code s.th).length ≤ 32) := fun s => by have := mvTo_length code s.th code.length; have := hS.2.1; unfold mvs; omega
    go_step
    go_step
    go_cut [9, 10] from 18 to 35 (fun _ _ wr => MachAt (w.alloc (.cells #[.string nv, .slice (some ⟨cb, co, none⟩) code.length cc, .slice wa want.length wcap] 33)) wr M (.slice (some ⟨cb, co, none⟩) code.length cc) model code (runS code model script st0))
    case first =>
      go_wp2
      go_loopw [9] (fun i wr => ∃ (k : Nat) (s : St), k ≤ script.length ∧ i = .int .i64 k ∧ MachAt (w.alloc (.cells #[.string nv, .slice (some ⟨cb, co, none⟩) code.length cc, .slice wa want.length wcap] 33)) wr M (.slice (some ⟨cb, co, none⟩) code.length cc) model code s ∧ runS code model (script.drop k) s = runS code model script st0) (fun i _ => script.length - (intOf i).toNat)
      case atStart => exact ⟨0, st0, Nat.zero_le _, rfl, HM.out, rfl⟩
      case round =>
        obtain ⟨k, s, hk, rfl, hs, hrun⟩ := hrel
        have HS : Hid _ := hs
        have HRUN : Hid _ := hrun
        clear hs hrun
        by_cases hlt : k < script.length
        · obtain ⟨sb, so, rfl, hsb, hcell, hr1, hr2⟩ := hsc k hlt
          have HDR : Hid (runS code model (script.drop k) s = if (mvs code s.th).length = 0 then s else runS code model (script.drop (k + 1)) (moveN code model s (pickN (script[k]?.getD 0) (mvs code s.th).length))) := by
            show _ = _
            rw [List.drop_eq_getElem_cons hlt, List.getElem?_eq_getElem hlt]
            rfl
          have hlt' := HML.out s
          have HCELL : Hid _ := hcell
          clear hcell
          go_wp2_with fail
          refine Calls.mono (HMV.out s _ HS.out) ?_
          rintro r w3 ⟨rfl, hs3⟩
          have hcw : w3.cell? ⟨sb, so + k, none⟩ = some (.int .i64 (script[k]?.getD 0)) := by
            obtain ⟨L, _, _, hbb, _⟩ := hs3
            exact ((hb1.trans (hbb.mono (by simp))).cell (p := ⟨sb, so + k, none⟩) hsb).trans HCELL.out
          have HS3 : Hid _ := hs3
          clear hs3 HCELL
          generalize script[k]?.getD 0 = c at *
          have HMS : Hid (∀ wr n, n < (mvs code s.th).length → MachAt (w.alloc (.cells #[.string nv, .slice (some ⟨cb, co, none⟩) code.length cc, .slice wa want.length wcap] 33)) wr M (.slice (some ⟨cb, co, none⟩) code.length cc) model code s → Calls Tryd.prog 36 #[.pointer (some ⟨M, 0, none⟩), .int .i64 n] wr fun r w' => r = .returned (.tuple #[]) ∧ MachAt (w.alloc (.cells #[.string nv, .slice (some ⟨cb, co, none⟩) code.length cc, .slice wa want.length wcap] 33)) w' M (.slice (some ⟨cb, co, none⟩) code.length cc) model code (moveN code model s n)) := fun wr n => HMO.out s wr n
          generalize (mvs code s.th).length = ml at *
          by_cases h0 : ml = 0
          · have h0i : ((ml : Int) == 0) = true := by rw [beq_iff_eq]; omega
            have HZ : Hid _ := h0
            clear h0
            go_wp2
            go_meet
            have e := HDR.out
            rw [if_pos HZ.out] at e
            rw [← HRUN.out, e]
            exact HS3.out
          · have h0i : ((ml : Int) == 0) = false := by rw [beq_eq_false_iff_ne]; omega
            go_wp2_with fail
            refine Calls.mono (pick_any c ⟨hr1, hr2⟩ ml ⟨by omega, hlt'⟩ _) ?_
            rintro r w4 ⟨rfl, rfl⟩
            go_wp2_with fail
            refine Calls.mono (HMS.out _ (pickN c ml) (pickN_lt c (by omega)) HS3.out) ?_
            rintro r w5 ⟨rfl, hs5⟩
            have HS5 : Hid _ := hs5
            clear hs5
            go_wp2
            go_roundw
            case rel => exact ⟨k + 1, _, hlt, by go_num, HS5.out, by have e := HDR.out; rw [if_neg h0] at e; rw [← e]; exact HRUN.out⟩
            case measure => simp [intOf]; omega
        · go_wp2
          go_meet
          have hke : k = script.length := by omega
          have e := HRUN.out
          rw [hke, List.drop_length] at e
          rw [← e]
          exact HS.out
    case rest =>
      have HR : Hid _ := hcut
      clear hcut HM
      go_wp2
      go_loopw [11] (fun i wr => ∃ k : Nat, k ≤ 1024 ∧ i = .int .i64 k ∧ MachAt (w.alloc (.cells #[.string nv, .slice (some ⟨cb, co, none⟩) code.length cc, .slice wa want.length wcap] 33)) wr M (.slice (some ⟨cb, co, none⟩) code.length cc) model code (settle code model k (runS code model script st0))) (fun i _ => 1024 - (intOf i).toNat)
      case atStart => exact ⟨0, Nat.zero_le _, rfl, HR.out⟩
      case round =>
        obtain ⟨k, hk, rfl, hs⟩ := hrel
        have HS : Hid _ := hs
        clear hs
        by_cases hlt : k < 1024
        · have HST : Hid (settle code model (k + 1) (runS code model script st0) = if 0 < (mvs code (settle code model k (runS code model script st0)).th).length then moveN code model (settle code model k (runS code model script st0)) 0 else settle code model k (runS code model script st0)) := rfl
          generalize settle code model k (runS code model script st0) = s at *
          have hlt' := HML.out s
          have HMS : Hid (∀ wr n, n < (mvs code s.th).length → MachAt (w.alloc (.cells #[.string nv, .slice (some ⟨cb, co, none⟩) code.length cc, .slice wa want.length wcap] 33)) wr M (.slice (some ⟨cb, co, none⟩) code.length cc) model code s → Calls Tryd.prog 36 #[.pointer (some ⟨M, 0, none⟩), .int .i64 n] wr fun r w' => r = .returned (.tuple #[]) ∧ MachAt (w.alloc (.cells #[.string nv, .slice (some ⟨cb, co, none⟩) code.length cc, .slice wa want.length wcap] 33)) w' M (.slice (some ⟨cb, co, none⟩) code.length cc) model code (moveN code model s n)) := fun wr n => HMO.out s wr n
          have hki : (k : Int) < 1024 := by omega
          go_wp2_with fail
          refine Calls.mono (HMV.out s _ HS.out) ?_
          rintro r w3 ⟨rfl, hs3⟩
          have HS3 : Hid _ := hs3
          clear hs3
          generalize (mvs code s.th).length = ml at *
          by_cases h0 : 0 < ml
          · have h0i : (0 : Int) < (ml : Int) := by omega
            have HZ : Hid _ := h0
            go_wp2_with fail
            refine Calls.mono (HMS.out _ 0 h0 HS3.out) ?_
            rintro r w5 ⟨rfl, hs5⟩
            have HS5 : Hid _ := hs5
            clear hs5
            go_wp2
            go_roundw
            case rel => exact ⟨k + 1, hlt, by go_num, by rw [HST.out, if_pos HZ.out]; exact HS5.out⟩
            case measure => simp [intOf]; omega
          · have h0i : ¬ ((0 : Int) < (ml : Int)) := by omega
            have HZ : Hid _ := h0
            clear h0
            go_wp2
            go_roundw
            case rel => exact ⟨k + 1, hlt, by go_num, by rw [HST.out, if_neg HZ.out]; exact HS3.out⟩
            case measure => simp [intOf]; omega
        · have hke : k = 1024 := by omega
          rename World => w9
          rw [hke] at HS
          have hki : ¬ ((k : Int) < 1024) := by omega
          clear hke hlt hk
          have HPS : Hid (settle code model 1024 (runS code model script st0) = playS code model script) := rfl
          rw [HPS.out] at HS
          generalize hps : playS code model script = s at HS
          have HPE : Hid (playS code model script = s) := hps
          clear hps HPS
          obtain ⟨L, rfl, hI, hBw, hO⟩ := HS.out
          have HI : Hid _ := hI
          have hl16 := hS.2.1
          have HMT : Hid (∀ (v : Value) (wq : World), Own wq w9.heap.size 3 v (endS code.length s) → Below w9.heap.size w9 wq → ∃ g cap, v = .slice (some ⟨g, 0, none⟩) (endS code.length s).length cap ∧ Calls Tryd.prog 38 #[.agg #[.string nv, .slice (some ⟨cb, co, none⟩) code.length cc, .slice wa want.length wcap], .slice (some ⟨g, 0, none⟩) (endS code.length s).length cap] wq fun r w' => r = .returned (.bool (metS code.length want (endS code.length s))) ∧ Below wq.heap.size wq w') := by
            intro v wq ho hb
            obtain ⟨g, cap, e, hg, hA⟩ := ho.shape (by rw [endS_length]; omega)
            exact ⟨g, cap, e, met_any code.length want (endS code.length s) nv _ cc g 0 cap _ wq (hW0.kept (((hb1.trans (hBw.mono (by simp))).trans (hb.mono (by have := hBw.size; simp at this; omega))))) hSW hA (endS_length _ _) hl16⟩
          have HBASE : Hid (∀ wq, Below w9.heap.size w9 wq → Below w.heap.size w wq) := fun wq hb => ((hb1.trans (hBw.mono (by simp))).trans (hb.mono (by have := hBw.size; simp at this; omega)))
          have HBOX : Hid (∀ wq, Below w9.heap.size w9 wq → wq.cell? ⟨w.heap.size, 0, none⟩ = some (.string nv) ∧ wq.cell? ⟨w.heap.size, 1, none⟩ = some (.slice (some ⟨cb, co, none⟩) code.length cc) ∧ wq.cell? ⟨w.heap.size, 2, none⟩ = some (.slice wa want.length wcap)) := by
            intro wq hb
            have hs1 : w.heap.size < (w.alloc (.cells #[.string nv, .slice (some ⟨cb, co, none⟩) code.length cc, .slice wa want.length wcap] 33)).heap.size := by simp
            have hb2 := hBw.trans (hb.mono hBw.size)
            refine ⟨(hb2.cell (p := ⟨w.heap.size, 0, none⟩) hs1).trans ?_, (hb2.cell (p := ⟨w.heap.size, 1, none⟩) hs1).trans ?_, (hb2.cell (p := ⟨w.heap.size, 2, none⟩) hs1).trans ?_⟩
            all_goals simp
          have hwr : w.heap.size ≤ w9.heap.size := by have := hBw.size; simp at this; omega
          clear hI HR HMV HMO hcbl hsc hb1 hBw hC0 hW0
          go_wp2
          go_loopw [13, 14] (fun v i wq => ∃ k : Nat, k ≤ code.length ∧ i = .int .i64 k ∧ Own wq w9.heap.size 3 v (regsTo s k) ∧ Below w9.heap.size w9 wq) (fun _ i _ => code.length - (intOf i).toNat)
          case atStart => exact ⟨0, Nat.zero_le _, rfl, Own.nil _ _ _, Below.refl _ _⟩
          case round =>
            obtain ⟨k, hk, rfl, hown, hbq⟩ := hrel
            have hIq := HI.out.kept hbq
            have c3 := hIq.c3
            have c2 := hIq.c2
            by_cases hlt : k < code.length
            · have t1 := hIq.t1 k hlt
              have HCR : Hid (∀ j, j < ((List.range 16).map fun r => (s.th k).regs[r]?.getD 0).length → wr.cell? ⟨L.gr k, 0 + j, none⟩ = some (.int .i64 ((((List.range 16).map fun r => (s.th k).regs[r]?.getD 0)[j]?.getD 0 : Nat) : Int))) := by
                intro j hj
                have hj' : j < 16 := by simpa using hj
                rw [range16_at _ hj', Nat.zero_add]
                exact hIq.cr k j hlt hj'
              have hlr := regsTo_length s k
              clear hIq
              go_wp2_with (at_builtin; go_must (refine wpList_pushL rfl (.tmp 55) (.tmp 63) 25 rfl w9.heap.size w9.heap.size w9 3 Tryd.underlying25 Tryd.infoIntM _ _ ((List.range 16).map fun r => (s.th k).regs[r]?.getD 0) (L.gr k) 0 16 16 (by simp) (by rfl) (by rfl) HCR.out hown (by simp; omega) hbq (Nat.le_refl _) hbq.size ?_); intro v' w1 hown1 hb1 _; clear hown hbq)
              go_roundw
              case rel => exact ⟨k + 1, hlt, by go_num, by rw [regsTo_succ]; exact hown1, hb1⟩
              case measure => simp [intOf]; omega
            · have hke : k = code.length := by omega
              subst hke
              have HCM : Hid (∀ j, j < ((List.range 16).map s.mem).length → wr.cell? ⟨L.gm, 0 + j, none⟩ = some (.int .i64 ((((List.range 16).map s.mem)[j]?.getD 0 : Nat) : Int))) := by
                intro j hj
                have hj' : j < 16 := by simpa using hj
                rw [range16_at _ hj', Nat.zero_add]
                exact hIq.cm j hj'
              have hlr := regsTo_length s code.length
              clear hIq
              go_wp2_with (at_builtin; go_must (refine wpList_pushL rfl (.tmp 65) (.tmp 69) 25 rfl w9.heap.size w9.heap.size w9 3 Tryd.underlying25 Tryd.infoIntM _ _ ((List.range 16).map s.mem) L.gm 0 16 16 (by simp) (by rfl) (by rfl) HCM.out hown (by simp; omega) hbq (Nat.le_refl _) hbq.size ?_); intro v' w1 hown1 hb1 _; obtain ⟨g, cap, hv, hmet⟩ := HMT.out v' w1 hown1 hb1; obtain ⟨bx0, bx1, bx2⟩ := HBOX.out w1 hb1; have HO1 : Hid _ := hown1; have HB1 : Hid _ := hb1; have HME : Hid _ := hmet; subst hv; clear hown hbq hown1 hb1 hmet)
              refine Calls.mono HME.out ?_
              rintro r w5 ⟨rfl, hb5⟩
              have HB5 : Hid _ := hb5
              clear hb5
              go_wp2
              go_ret2
              rw [HPE.out]
              refine ⟨.slice (some ⟨g, 0, none⟩) (endS code.length s).length cap, rfl, Own.rebase (Own.kept (base := w9.heap.size) HO1.out HB5.out) hwr, (HBASE.out _ HB1.out).trans (HB5.out.mono ?_)⟩
              have := HB1.out.size
              omega

end Go.Proofs.YtokfiflflcfidabDoor
