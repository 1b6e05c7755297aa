import Derived.Test.YtokfiflflcfidabRows
import Derived.Test.YtokfiflflcfidabPMZ
import Derived.WalkKit
import Derived.WalkSpells
import Derived.WalkLawsBesides
namespace Go.Proofs.Ytokfiflflcfidab
open Go.RowKit

def runA : Array Value := #[.int .i64 0, .int .i64 0, .int .i64 0, .int .i64 0, .int .i64 0, .int .i64 0, .int .i64 0, .int .i64 0, .int .i64 0, .int .i64 0, .int .i64 0, .int .i64 0, .int .i64 0, .int .i64 0, .int .i64 0, .int .i64 0, .int .i64 0, .slice none 0 0]
def runC : List Value := runA.toList
theorem runC_length : runC.length = 18 := rfl
theorem runC_one : ∀ u ∈ runC, u.oneCell' = true := by
  intro u hu
  simp [runC, runA] at hu
  rcases hu with rfl | rfl <;> rfl
def rcs (k : Nat) : List Value := (List.range k).flatMap fun _ => runC
theorem rcs_succ (k : Nat) : rcs (k + 1) = rcs k ++ runC := by simp [rcs, List.range_succ]
theorem rcs_length (k : Nat) : (rcs k).length = k * 18 := by
  induction k with
  | zero => rfl
  | succ k ih => rw [rcs_succ, List.length_append, ih, runC_length]; omega
theorem rcs_at {k j i : Nat} (hj : j < k) (hi : i < 18) : (rcs k)[j * 18 + i]? = runC[i]? := by
  induction k with
  | zero => omega
  | succ k ih =>
    rw [rcs_succ]
    by_cases hjk : j < k
    · rw [List.getElem?_append_left (by rw [rcs_length]; omega)]; exact ih hjk
    · have : j = k := by omega
      subst this
      rw [List.getElem?_append_right (by rw [rcs_length]; omega), rcs_length]
      congr 1
      omega
theorem run_new (w : World) (T : Nat) (j : Nat) (u : Value) (h : runC[j]? = some u) : (w.alloc (.cells runA T)).cell? ((⟨w.heap.size, 0, none⟩ : Addr).add j) = some u := by
  rw [addr_addP, cell_of_row _ _ (0 + j) _ _ _ (heap_alloc_new w _), Nat.zero_add]
  simpa [runC] using h
theorem runC_zero {i : Nat} (hi : i < 17) : runC[i]? = some (.int .i64 0) := by
  match i, hi with
  | 0, _ => rfl
  | 1, _ => rfl
  | 2, _ => rfl
  | 3, _ => rfl
  | 4, _ => rfl
  | 5, _ => rfl
  | 6, _ => rfl
  | 7, _ => rfl
  | 8, _ => rfl
  | 9, _ => rfl
  | 10, _ => rfl
  | 11, _ => rfl
  | 12, _ => rfl
  | 13, _ => rfl
  | 14, _ => rfl
  | 15, _ => rfl
  | 16, _ => rfl
  | n + 17, h => omega

/-- a machine under way: k threads laid -/
structure NmInv (w wr : World) (model k : Nat) (v : Value) : Prop where
  below : Below w.heap.size w wr
  big : w.heap.size + 1 ≤ wr.heap.size
  kM : Blk wr w.heap.size 79
  c0 : wr.cell? ⟨w.heap.size, 0, none⟩ = some (.int .i64 (model : Int))
  c1 : wr.cell? ⟨w.heap.size, 1, none⟩ = some v
  cm : ∀ c, c < 16 → wr.cell? ⟨w.heap.size, 2 + c, none⟩ = some (.int .i64 0)
  own : wr.ownsRow (w.heap.size + 1) 82 18 v k (rcs k)

theorem NmInv.off {w wr : World} {model k : Nat} {v : Value} (h : NmInv w wr model k v) : v.ownBlock ≠ some w.heap.size := by
  intro e
  have := (World.ownsRow.lt h.own _ e).1
  omega
theorem NmInv.grow {w wr w' : World} {model k : Nat} {v v' : Value} (h : NmInv w wr model k v) (hg : Grew wr w' v v') (hown : w'.ownsRow (w.heap.size + 1) 82 18 v' (k + 1) (rcs k ++ runC)) :
    w'.cell? ⟨w.heap.size, 1, none⟩ = some v ∧ w'.frozen? ⟨w.heap.size, 1, none⟩ = false ∧ NmInv w (w'.setCell ⟨w.heap.size, 1, none⟩ v') model (k + 1) v' := by
  have hbig := h.big
  have hblk := hg.block (k := w.heap.size) (by omega) h.off
  have hc : ∀ o, w'.cell? ⟨w.heap.size, o, none⟩ = wr.cell? ⟨w.heap.size, o, none⟩ := fun o => World.cell?_of_block hblk
  have hkM : Blk w' w.heap.size 79 := by
    obtain ⟨cur, hcur⟩ := h.kM
    exact ⟨cur, hblk.trans hcur⟩
  refine ⟨(hc 1).trans h.c1, hkM.free 1, ?_⟩
  exact {
    below := (h.below.trans (Below.mono ((hg.below (Below.refl (w.heap.size + 1) wr) hbig h.own)) (by omega))).setCell (p := ⟨w.heap.size, 1, none⟩) (Nat.le_refl _) _
    big := by have := hg.size; simp; omega
    kM := hkM.set _ _ _
    c0 := (set_ne _ (Or.inr (by omega))).trans ((hc 0).trans h.c0)
    c1 := set_eq _ ((hc 1).trans h.c1)
    cm := fun c hcc => (set_ne _ (Or.inr (by omega))).trans ((hc _).trans (h.cm c hcc))
    own := by
      rw [rcs_succ]
      refine ⟨hown.1, ?_⟩
      rcases hown.2 with ⟨_, h0⟩ | ⟨g, cap, cur, e, g1, g2, g3⟩
      · omega
      · refine Or.inr ⟨g, cap, cur, e, g1, ?_, g3⟩
        rw [heap_setCell_other w' ⟨w.heap.size, 1, none⟩ g v' (by dsimp only; omega)]
        exact g2 }
theorem NmInv.mach {w wr : World} {model : Nat} {v : Value} {code : List (List RIns)} (h : NmInv w wr model code.length v) (h0 : 0 < code.length) : PAt w wr w.heap.size model code st0 := by
  have hown := h.own
  rcases hown.2 with ⟨_, h1⟩ | ⟨g, cap, cur, rfl, g1, g2, g3⟩
  · omega
  have hc : ∀ j i u, j < code.length → i < 18 → runC[i]? = some u → wr.cell? ⟨g, j * 18 + i, none⟩ = some u := by
    intro j i u hj hi hu
    have := hown.cells (g := g) rfl (j * 18 + i) u ((rcs_at hj hi).trans hu)
    rw [addr_addP, Nat.zero_add] at this
    exact this
  refine ⟨⟨w.heap.size, g, cap, fun _ => .slice none 0 0⟩, rfl, ?_, h.below, fun k hk => ⟨Nat.zero_le _, by simp [st0], Nat.zero_le _, fun i hi => by simp [st0] at hi⟩⟩
  exact {
    types := by decide
    bM := Nat.le_refl _
    bt := by dsimp only; omega
    bb := fun k b hk e => by simp [Value.ownBlock] at e
    kM := h.kM
    kt := ⟨_, g2⟩
    kb := fun k b hk e => by simp [Value.ownBlock] at e
    c0 := h.c0
    c1 := h.c1
    cm := h.cm
    t0 := fun k hk => hc k 0 _ hk (by omega) rfl
    tr := fun k r hk hr => by
      have e : ((st0.th k).regs[r]?.getD 0 : Nat) = 0 := by
        show ((List.replicate 16 0)[r]?.getD 0) = 0
        rw [List.getElem?_replicate, if_pos hr]
        rfl
      rw [e, Nat.add_assoc]
      exact hc k (1 + r) _ hk (by omega) (runC_zero (by omega))
    t2 := fun k hk => hc k 17 _ hk (by omega) rfl
    cb := fun k hk => Or.inl ⟨rfl, rfl⟩
    dbb := fun k j b hk hj hkj e => by simp [Value.ownBlock] at e }

theorem Try.infoRunner : (Try.prog.info? 82).map (fun i => (i.zero.map Value.cells, i.size, i.bytes)) = some (some runA, 18, 160) := by kernel_rfl

set_option maxRecDepth 100000 in
set_option maxHeartbeats 800000 in
theorem newMachine_any (code : List (List RIns)) (model : Nat) (cv : Value) (w : World) (hC : CodesRd w cv code) (hS : SndC code) :
    Calls Try.prog 29 #[cv, .int .i64 model] w fun r w' => ∃ M, r = .returned (.pointer (some ⟨M, 0, none⟩)) ∧ PAt w w' M model code st0 := by
  obtain ⟨_, cb, co, cc, rfl, hcbl, hcc⟩ := hC
  have hl16 := hS.2.1
  have h1 := hS.1
  have hinfo : ∃ z, (Try.prog.info? 82).map (fun i => (i.zero, i.size, i.bytes)) = some (some z, 18, 160) ∧ z.cells.size = 18 := by
    have := Try.infoRunner
    cases hi : Try.prog.info? 82 with
    | none => rw [hi] at this; cases this
    | some i =>
      rw [hi] at this
      simp only [Option.map_some, Option.some.injEq, Prod.mk.injEq] at this
      obtain ⟨a, b, c⟩ := this
      cases hz : i.zero with
      | none => rw [hz] at a; cases a
      | some z =>
        rw [hz] at a
        simp only [Option.map_some, Option.some.injEq] at a
        exact ⟨z, by simp [hz, b, c], by rw [a]; rfl⟩
  obtain ⟨z, hinfo, hzs⟩ := hinfo
  have HINF : Hid _ := hinfo
  have HZS : Hid _ := hzs
  clear hcc hinfo hzs
  go_enter Try.func29, Try.ntmps29
  go_wp2
  go_loopw [11] (fun i wr => ∃ (k : Nat) (v : Value), k ≤ code.length ∧ i = .int .i64 k ∧ NmInv w wr model k v) (fun i _ => code.length - (intOf i).toNat)
  case atStart =>
    refine ⟨0, .slice none 0 0, Nat.zero_le _, rfl, ?_⟩
    exact {
      below := (Below.refl _ _).alloc (Nat.le_refl _) _
      big := by simp
      kM := ⟨_, heap_alloc_new w _⟩
      c0 := by simp
      c1 := by simp
      cm := fun c hc => by
        rw [cell_of_row _ _ (2 + c) _ _ _ (heap_alloc_new w _)]
        match c, hc with
        | 0, _ => rfl
        | 1, _ => rfl
        | 2, _ => rfl
        | 3, _ => rfl
        | 4, _ => rfl
        | 5, _ => rfl
        | 6, _ => rfl
        | 7, _ => rfl
        | 8, _ => rfl
        | 9, _ => rfl
        | 10, _ => rfl
        | 11, _ => rfl
        | 12, _ => rfl
        | 13, _ => rfl
        | 14, _ => rfl
        | 15, _ => rfl
        | n + 16, h => omega
      own := World.ownsRow_nil _ _ _ _ }
  case round =>
    obtain ⟨k, v, hk, rfl, hinv⟩ := hrel
    have c1 := hinv.c1
    have hbig := hinv.big
    have hMn : ¬ (w.heap.size = wr.heap.size) := by omega
    have HINV : Hid (NmInv w wr model k v) := hinv
    clear hinv
    by_cases hlt : k < code.length
    · go_wp2_with (at_builtin; go_must (refine wpList_pushK rfl _ _ 76 rfl (w.heap.size + 1) 82 z 18 160 Try.underlying76 HINF.out HZS.out (by decide) _ k (rcs k) runA runC (run_new wr _) rfl runC_one (by rfl) (by rfl) HINV.out.own (by omega) (by unfold maxLen; omega) hbig ?_); intro v' w7 hown7 hg7; obtain ⟨s1, s2, s3⟩ := HINV.out.grow hg7 hown7; obtain ⟨va, vc, hv'⟩ : ∃ a c, v' = .slice a (k + 1) c := (by rcases hown7.2 with ⟨_, h0⟩ | ⟨g, cap, cur, e, _⟩; exact absurd h0 (by omega); exact ⟨_, _, e⟩); subst hv'; have S3 : Hid _ := s3; clear s3 hown7 hg7)
      go_roundw
      case rel => exact ⟨k + 1, _, by omega, by go_num, S3.out⟩
      case measure => simp [intOf]; omega
    · have : k = code.length := by omega
      subst this
      go_wp2
      go_ret
      exact ⟨_, rfl, HINV.out.mach h1⟩

end Go.Proofs.Ytokfiflflcfidab
