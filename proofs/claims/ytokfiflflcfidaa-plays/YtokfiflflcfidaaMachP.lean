import Derived.Test.YtokfiflflcfidaaRows
import Derived.Test.YtokfiflflcfidaaPlain
import Derived.Test.YtokfiflflcfidaaMem
import Derived.Test.YtokfiflflcfidaaMachM
import Derived.Test.YtokfiflflcfidaaStM
import Derived.Test.YtokfiflflcfidaaMachW
import Derived.Test.YtokfiflflcfidaaMachZ
import Derived.Test.YtokfiflflcfidaaMachS
import Derived.Test.YtokfiflflcfidaaMachE
import Derived.Test.YtokfiflflcfidaaScr
import Derived.WalkKit
import Derived.WalkSpells
import Derived.WalkLawsBesides
import Derived.Deep.CutRange
import Derived.RegionTactic
import Derived.BigRegion
import Derived.Deep.QuietTactic
import Derived.BigQuiet
namespace Go.Proofs.Ytokfiflflcfidaa
open Go.RowKit

set_option maxRecDepth 100000 in
set_option maxHeartbeats 800000 in
theorem pick_any (c : Int) (hc : -9223372036854775808 ≤ c ∧ c ≤ 9223372036854775807) (n : Nat) (hn : 0 < n ∧ n ≤ 32) (w : World) :
    Calls Try.prog 39 #[.int .i64 c, .int .i64 n] w fun r w' => r = .returned (.int .i64 (pickN c n : Nat)) ∧ w' = w := by
  have HP : Hid (((pickN c n : Nat) : Int) = (if c < 0 then -(c + 1) else c) % (n : Int)) := by
    show _ = _
    unfold pickN
    have h1 := Int.emod_nonneg (if c < 0 then -(c + 1) else c) (by omega : (n : Int) ≠ 0)
    omega
  have hn0 : ¬ ((n : Int) = 0) := by omega
  have hnn : ¬ (n = 0) := by omega
  obtain ⟨hc1, hc2⟩ := hc
  by_cases h : c < 0
  · go_enter Try.func39, Try.ntmps39
    go_wp2
    go_ret
    refine ⟨?_, rfl⟩
    show Ending.returned (Value.int .i64 (-((c + 1).tmod (n : Int)))) = _
    rw [HP.out, if_pos h, ← Int.neg_tmod, Int.tmod_eq_emod_of_nonneg (by omega)]
  · go_enter Try.func39, Try.ntmps39
    go_wp2
    go_ret
    refine ⟨?_, rfl⟩
    show Ending.returned (Value.int .i64 (c % (n : Int))) = _
    rw [HP.out, if_neg (by omega)]

theorem moves_at (code : List (List RIns)) (s : St) (model M : Nat) (cv : Value) (w0 w : World) (h : MachAt w0 w M cv model code s) (hC : CodesRd w0 cv code) (hS : SndC code) :
    Calls Try.prog 37 #[.pointer (some ⟨M, 0, none⟩)] w fun r w' => r = .returned (.int .i64 ((mvs code s.th).length : Nat)) ∧ MachAt w0 w' M cv model code s := by
  have h' := h
  obtain ⟨L, rfl, hI, hB, hO⟩ := h
  refine (moves_any code s.mem s.th w0.heap.size model L cv w hI (hC.kept hB) hS).mono ?_
  rintro r w' ⟨h1, m, rfl⟩
  exact ⟨h1, h'.drew m⟩

/-- 'l = append(l, e...)', l of the call's own: numbers -/
theorem wpList_pushL {P : Program} {wr : World} {ops : Array Oper} {rest : List Oper} {o : Oper} {a : Act} {Q : Exit → Act → World → Prop} (hgd : o.guard = none) (s x : Operand) (t : TypeId)
    (ho : o.op = .call { callee := .builtin .append, args := #[s, x], argTypes := #[t, t] })
    (B base : Nat) (w0 : World) (T : TypeId) (ht : P.underlying t = some (.slice T)) (hinfo : (P.info? T).map (fun i => (i.zero, i.size, i.bytes)) = some (some (.int .i64 0), 1, 8))
    (v : Value) (l e : List Nat) (g off m c : Nat) (hm : m = e.length) (hs : a.eval s = v) (hx : a.eval x = .slice (some ⟨g, off, none⟩) m c) (hA : ∀ j, j < e.length → wr.cell? ⟨g, off + j, none⟩ = some (.int .i64 ((e[j]?.getD 0 : Nat) : Int)))
    (hown : Own wr base T v l) (hlen : l.length + e.length ≤ 1000000) (hb : Below B w0 wr) (hB : B ≤ base) (hbase : base ≤ wr.heap.size)
    (h : ∀ v' w', Own w' base T v' (l ++ e) → Below B w0 w' → wr.heap.size ≤ w'.heap.size → wpList P ops Q rest (a.put o.dst v') w') :
    wpList P ops Q (o :: rest) a wr := by
  obtain ⟨i0, hi, hz0, hz1, hz2⟩ := info_parts hinfo
  subst hm
  refine wpList_append_own _ hgd s x t ho base T i0 (.int .i64 0) 1 8 ht hi hz0 hz1 hz2 rfl (by decide) v l.length (nums l) hs hown ⟨g, off, none⟩ e.length c (nums e) hx (by rw [nums_length]; omega) ?_ ?_ (by unfold maxLen; omega) (by omega) hbase ?_
  · intro j u hu
    rw [addr_add]
    have hj : j < e.length := by have := (List.getElem?_eq_some_iff.1 hu).1; rwa [nums_length] at this
    rw [hA j hj]
    simp only [nums, List.getElem?_map, List.getElem?_eq_getElem hj] at hu
    rw [List.getElem?_eq_getElem hj]
    exact hu
  · intro u hu
    simp only [nums, List.mem_map] at hu
    obtain ⟨y, _, rfl⟩ := hu
    rfl
  · intro v' w' h1 h2 _
    refine h v' w' ?_ ?_ h2.size
    · have e1 : nums l ++ nums e = nums (l ++ e) := by simp [nums]
      rw [e1] at h1
      show w'.ownsRow base T 1 v' (l ++ e).length (nums (l ++ e))
      rw [List.length_append]
      exact h1
    · exact hb.grown h2 (by omega) (fun k hk => Nat.le_trans hB (hown.lt k hk).1)

theorem Try.infoIntM : (Try.prog.info? 3).map (fun i => (i.zero, i.size, i.bytes)) = some (some (.int .i64 0), 1, 8) := by kernel_rfl
set_option maxRecDepth 100000 in
set_option maxHeartbeats 1600000 in
theorem play_any (code : List (List RIns)) (want : List RCl) (script : List Int) (model : Nat) (nv : ByteArray) (cv wv sv : Value) (w : World) (hC : CodesRd w cv code) (hS : SndC code) (hm : model = 0 ∨ model = 1)
    (hW : WantRd w wv want) (hSW : SndW code.length want) (hR : ScrRd w sv script) (hlen : script.length ≤ 9223372036854775807) :
    Calls Try.prog 18 #[.agg #[.string nv, cv, wv], .int .i64 model, sv] w fun r w' => ∃ v, r = .returned (.tuple #[v, .bool (metS code.length want (endS code.length (playS code model script)))]) ∧ Own w' w.heap.size 3 v (endS code.length (playS code model script)) ∧ Below w.heap.size w w' := by
  have hC0 := hC
  have hW0 := hW
  obtain ⟨_, cb, co, cc, rfl, hcbl, hcc⟩ := hC
  obtain ⟨wa, wcap, rfl, hwc⟩ := hW
  obtain ⟨sa, scap, rfl, hsc⟩ := hR
  clear hcc hwc
  have hb1 : Below w.heap.size w (w.alloc (.cells #[.string nv, .slice (some ⟨cb, co, none⟩) code.length cc, .slice wa want.length wcap] 25)) := (Below.refl _ _).alloc (Nat.le_refl _) _
  have HST : Hid _ := start_any code model nv _ wa want.length wcap _ (hC0.kept hb1) hS
  have HC1 : Hid _ := hC0.kept hb1
  go_enter Try.func18, Try.ntmps18
  go_upto_region 1 with (fail)
  go_cut [8] from 15 to 17 (fun m wr => ∃ M, m = .pointer (some ⟨M, 0, none⟩) ∧ MachAt (w.alloc (.cells #[.string nv, .slice (some ⟨cb, co, none⟩) code.length cc, .slice wa want.length wcap] 25)) wr M (.slice (some ⟨cb, co, none⟩) code.length cc) model code st0)
  case first =>
    go_wp2_with fail
    refine Calls.mono HST.out ?_
    rintro r w2 ⟨M, rfl, hM⟩
    have HM : Hid _ := hM
    clear hM
    go_wp2
    go_meet
    exact ⟨M, rfl, HM.out⟩
  case rest =>
    obtain ⟨M, rfl, hM⟩ := hcut
    have HM : Hid _ := hM
    clear hM
    have HMV : Hid (∀ s wr, MachAt (w.alloc (.cells #[.string nv, .slice (some ⟨cb, co, none⟩) code.length cc, .slice wa want.length wcap] 25)) wr M (.slice (some ⟨cb, co, none⟩) code.length cc) model code s → Calls Try.prog 37 #[.pointer (some ⟨M, 0, none⟩)] wr fun r w' => r = .returned (.int .i64 ((mvs code s.th).length : Nat)) ∧ MachAt (w.alloc (.cells #[.string nv, .slice (some ⟨cb, co, none⟩) code.length cc, .slice wa want.length wcap] 25)) w' M (.slice (some ⟨cb, co, none⟩) code.length cc) model code s) :=
      fun s wr h => moves_at code s model M _ _ wr h HC1.out hS
    have HMO : Hid (∀ s wr n, n < (mvs code s.th).length → MachAt (w.alloc (.cells #[.string nv, .slice (some ⟨cb, co, none⟩) code.length cc, .slice wa want.length wcap] 25)) wr M (.slice (some ⟨cb, co, none⟩) code.length cc) model code s → Calls Try.prog 38 #[.pointer (some ⟨M, 0, none⟩), .int .i64 n] wr fun r w' => r = .returned (.tuple #[]) ∧ MachAt (w.alloc (.cells #[.string nv, .slice (some ⟨cb, co, none⟩) code.length cc, .slice wa want.length wcap] 25)) w' M (.slice (some ⟨cb, co, none⟩) code.length cc) model code (moveN code model s n)) :=
      fun s wr n hn h => move_any code s n model M _ _ wr h HC1.out hS hm hn
    have HML : Hid (∀ s : St, (mvs code s.th).length ≤ 32) := fun s => by have := mvTo_length code s.th code.length; have := hS.2.1; unfold mvs; omega
    go_step
    go_step
    go_cut [9, 10] from 18 to 35 (fun _ _ wr => MachAt (w.alloc (.cells #[.string nv, .slice (some ⟨cb, co, none⟩) code.length cc, .slice wa want.length wcap] 25)) wr M (.slice (some ⟨cb, co, none⟩) code.length cc) model code (runS code model script st0))
    case first =>
      go_wp2
      go_loopw [9] (fun i wr => ∃ (k : Nat) (s : St), k ≤ script.length ∧ i = .int .i64 k ∧ MachAt (w.alloc (.cells #[.string nv, .slice (some ⟨cb, co, none⟩) code.length cc, .slice wa want.length wcap] 25)) wr M (.slice (some ⟨cb, co, none⟩) code.length cc) model code s ∧ runS code model (script.drop k) s = runS code model script st0) (fun i _ => script.length - (intOf i).toNat)
      case atStart => exact ⟨0, st0, Nat.zero_le _, rfl, HM.out, rfl⟩
      case round =>
        obtain ⟨k, s, hk, rfl, hs, hrun⟩ := hrel
        have HS : Hid _ := hs
        have HRUN : Hid _ := hrun
        clear hs hrun
        by_cases hlt : k < script.length
        · obtain ⟨sb, so, rfl, hsb, hcell, hr1, hr2⟩ := hsc k hlt
          have HDR : Hid (runS code model (script.drop k) s = if (mvs code s.th).length = 0 then s else runS code model (script.drop (k + 1)) (moveN code model s (pickN (script[k]?.getD 0) (mvs code s.th).length))) := by
            show _ = _
            rw [List.drop_eq_getElem_cons hlt, List.getElem?_eq_getElem hlt]
            rfl
          have hlt' := HML.out s
          have HCELL : Hid _ := hcell
          clear hcell
          go_wp2_with fail
          refine Calls.mono (HMV.out s _ HS.out) ?_
          rintro r w3 ⟨rfl, hs3⟩
          have hcw : w3.cell? ⟨sb, so + k, none⟩ = some (.int .i64 (script[k]?.getD 0)) := by
            obtain ⟨L, _, _, hbb, _⟩ := hs3
            exact ((hb1.trans (hbb.mono (by simp))).cell (p := ⟨sb, so + k, none⟩) hsb).trans HCELL.out
          have HS3 : Hid _ := hs3
          clear hs3 HCELL
          generalize script[k]?.getD 0 = c at *
          have HMS : Hid (∀ wr n, n < (mvs code s.th).length → MachAt (w.alloc (.cells #[.string nv, .slice (some ⟨cb, co, none⟩) code.length cc, .slice wa want.length wcap] 25)) wr M (.slice (some ⟨cb, co, none⟩) code.length cc) model code s → Calls Try.prog 38 #[.pointer (some ⟨M, 0, none⟩), .int .i64 n] wr fun r w' => r = .returned (.tuple #[]) ∧ MachAt (w.alloc (.cells #[.string nv, .slice (some ⟨cb, co, none⟩) code.length cc, .slice wa want.length wcap] 25)) w' M (.slice (some ⟨cb, co, none⟩) code.length cc) model code (moveN code model s n)) := fun wr n => HMO.out s wr n
          generalize (mvs code s.th).length = ml at *
          by_cases h0 : ml = 0
          · have h0i : ((ml : Int) == 0) = true := by rw [beq_iff_eq]; omega
            have HZ : Hid _ := h0
            clear h0
            go_wp2
            go_meet
            have e := HDR.out
            rw [if_pos HZ.out] at e
            rw [← HRUN.out, e]
            exact HS3.out
          · have h0i : ((ml : Int) == 0) = false := by rw [beq_eq_false_iff_ne]; omega
            go_wp2_with fail
            refine Calls.mono (pick_any c ⟨hr1, hr2⟩ ml ⟨by omega, hlt'⟩ _) ?_
            rintro r w4 ⟨rfl, rfl⟩
            go_wp2_with fail
            refine Calls.mono (HMS.out _ (pickN c ml) (pickN_lt c (by omega)) HS3.out) ?_
            rintro r w5 ⟨rfl, hs5⟩
            have HS5 : Hid _ := hs5
            clear hs5
            go_wp2
            go_roundw
            case rel => exact ⟨k + 1, _, hlt, by go_num, HS5.out, by have e := HDR.out; rw [if_neg h0] at e; rw [← e]; exact HRUN.out⟩
            case measure => simp [intOf]; omega
        · go_wp2
          go_meet
          have hke : k = script.length := by omega
          have e := HRUN.out
          rw [hke, List.drop_length] at e
          rw [← e]
          exact HS.out
    case rest =>
      have HR : Hid _ := hcut
      clear hcut HM
      go_wp2
      go_loopw [11] (fun i wr => ∃ k : Nat, k ≤ 1024 ∧ i = .int .i64 k ∧ MachAt (w.alloc (.cells #[.string nv, .slice (some ⟨cb, co, none⟩) code.length cc, .slice wa want.length wcap] 25)) wr M (.slice (some ⟨cb, co, none⟩) code.length cc) model code (settle code model k (runS code model script st0))) (fun i _ => 1024 - (intOf i).toNat)
      case atStart => exact ⟨0, Nat.zero_le _, rfl, HR.out⟩
      case round =>
        obtain ⟨k, hk, rfl, hs⟩ := hrel
        have HS : Hid _ := hs
        clear hs
        by_cases hlt : k < 1024
        · have HST : Hid (settle code model (k + 1) (runS code model script st0) = if 0 < (mvs code (settle code model k (runS code model script st0)).th).length then moveN code model (settle code model k (runS code model script st0)) 0 else settle code model k (runS code model script st0)) := rfl
          generalize settle code model k (runS code model script st0) = s at *
          have hlt' := HML.out s
          have HMS : Hid (∀ wr n, n < (mvs code s.th).length → MachAt (w.alloc (.cells #[.string nv, .slice (some ⟨cb, co, none⟩) code.length cc, .slice wa want.length wcap] 25)) wr M (.slice (some ⟨cb, co, none⟩) code.length cc) model code s → Calls Try.prog 38 #[.pointer (some ⟨M, 0, none⟩), .int .i64 n] wr fun r w' => r = .returned (.tuple #[]) ∧ MachAt (w.alloc (.cells #[.string nv, .slice (some ⟨cb, co, none⟩) code.length cc, .slice wa want.length wcap] 25)) w' M (.slice (some ⟨cb, co, none⟩) code.length cc) model code (moveN code model s n)) := fun wr n => HMO.out s wr n
          have hki : (k : Int) < 1024 := by omega
          go_wp2_with fail
          refine Calls.mono (HMV.out s _ HS.out) ?_
          rintro r w3 ⟨rfl, hs3⟩
          have HS3 : Hid _ := hs3
          clear hs3
          generalize (mvs code s.th).length = ml at *
          by_cases h0 : 0 < ml
          · have h0i : (0 : Int) < (ml : Int) := by omega
            have HZ : Hid _ := h0
            go_wp2_with fail
            refine Calls.mono (HMS.out _ 0 h0 HS3.out) ?_
            rintro r w5 ⟨rfl, hs5⟩
            have HS5 : Hid _ := hs5
            clear hs5
            go_wp2
            go_roundw
            case rel => exact ⟨k + 1, hlt, by go_num, by rw [HST.out, if_pos HZ.out]; exact HS5.out⟩
            case measure => simp [intOf]; omega
          · have h0i : ¬ ((0 : Int) < (ml : Int)) := by omega
            have HZ : Hid _ := h0
            clear h0
            go_wp2
            go_roundw
            case rel => exact ⟨k + 1, hlt, by go_num, by rw [HST.out, if_neg HZ.out]; exact HS3.out⟩
            case measure => simp [intOf]; omega
        · have hke : k = 1024 := by omega
          rename World => w9
          rw [hke] at HS
          have hki : ¬ ((k : Int) < 1024) := by omega
          clear hke hlt hk
          have HPS : Hid (settle code model 1024 (runS code model script st0) = playS code model script) := rfl
          rw [HPS.out] at HS
          generalize hps : playS code model script = s at HS
          have HPE : Hid (playS code model script = s) := hps
          clear hps HPS
          obtain ⟨L, rfl, hI, hBw, hO⟩ := HS.out
          have HI : Hid _ := hI
          have hl16 := hS.2.1
          have HMT : Hid (∀ (v : Value) (wq : World), Own wq w9.heap.size 3 v (endS code.length s) → Below w9.heap.size w9 wq → ∃ g cap, v = .slice (some ⟨g, 0, none⟩) (endS code.length s).length cap ∧ Calls Try.prog 40 #[.agg #[.string nv, .slice (some ⟨cb, co, none⟩) code.length cc, .slice wa want.length wcap], .slice (some ⟨g, 0, none⟩) (endS code.length s).length cap] wq fun r w' => r = .returned (.bool (metS code.length want (endS code.length s))) ∧ Below wq.heap.size wq w') := by
            intro v wq ho hb
            obtain ⟨g, cap, e, hg, hA⟩ := ho.shape (by rw [endS_length]; omega)
            exact ⟨g, cap, e, met_any code.length want (endS code.length s) nv _ cc g 0 cap _ wq (hW0.kept (((hb1.trans (hBw.mono (by simp))).trans (hb.mono (by have := hBw.size; simp at this; omega))))) hSW hA (endS_length _ _) hl16⟩
          have HBASE : Hid (∀ wq, Below w9.heap.size w9 wq → Below w.heap.size w wq) := fun wq hb => ((hb1.trans (hBw.mono (by simp))).trans (hb.mono (by have := hBw.size; simp at this; omega)))
          have HBOX : Hid (∀ wq, Below w9.heap.size w9 wq → wq.cell? ⟨w.heap.size, 0, none⟩ = some (.string nv) ∧ wq.cell? ⟨w.heap.size, 1, none⟩ = some (.slice (some ⟨cb, co, none⟩) code.length cc) ∧ wq.cell? ⟨w.heap.size, 2, none⟩ = some (.slice wa want.length wcap)) := by
            intro wq hb
            have hs1 : w.heap.size < (w.alloc (.cells #[.string nv, .slice (some ⟨cb, co, none⟩) code.length cc, .slice wa want.length wcap] 25)).heap.size := by simp
            have hb2 := hBw.trans (hb.mono hBw.size)
            refine ⟨(hb2.cell (p := ⟨w.heap.size, 0, none⟩) hs1).trans ?_, (hb2.cell (p := ⟨w.heap.size, 1, none⟩) hs1).trans ?_, (hb2.cell (p := ⟨w.heap.size, 2, none⟩) hs1).trans ?_⟩
            all_goals simp
          have hwr : w.heap.size ≤ w9.heap.size := by have := hBw.size; simp at this; omega
          clear hI HR HMV HMO hcbl hsc hb1 hBw hC0 hW0
          go_wp2
          go_loopw [13, 14] (fun v i wq => ∃ k : Nat, k ≤ code.length ∧ i = .int .i64 k ∧ Own wq w9.heap.size 3 v (regsTo s k) ∧ Below w9.heap.size w9 wq) (fun _ i _ => code.length - (intOf i).toNat)
          case atStart => exact ⟨0, Nat.zero_le _, rfl, Own.nil _ _ _, Below.refl _ _⟩
          case round =>
            obtain ⟨k, hk, rfl, hown, hbq⟩ := hrel
            have hIq := HI.out.kept hbq
            have c3 := hIq.c3
            have c2 := hIq.c2
            by_cases hlt : k < code.length
            · have t1 := hIq.t1 k hlt
              have HCR : Hid (∀ j, j < ((List.range 16).map fun r => (s.th k).regs[r]?.getD 0).length → wr.cell? ⟨L.gr k, 0 + j, none⟩ = some (.int .i64 ((((List.range 16).map fun r => (s.th k).regs[r]?.getD 0)[j]?.getD 0 : Nat) : Int))) := by
                intro j hj
                have hj' : j < 16 := by simpa using hj
                rw [range16_at _ hj', Nat.zero_add]
                exact hIq.cr k j hlt hj'
              have hlr := regsTo_length s k
              clear hIq
              go_wp2_with (at_builtin; go_must (refine wpList_pushL rfl (.tmp 55) (.tmp 63) 44 rfl w9.heap.size w9.heap.size w9 3 Try.underlying44 Try.infoIntM _ _ ((List.range 16).map fun r => (s.th k).regs[r]?.getD 0) (L.gr k) 0 16 16 (by simp) (by rfl) (by rfl) HCR.out hown (by simp; omega) hbq (Nat.le_refl _) hbq.size ?_); intro v' w1 hown1 hb1 _; clear hown hbq)
              go_roundw
              case rel => exact ⟨k + 1, hlt, by go_num, by rw [regsTo_succ]; exact hown1, hb1⟩
              case measure => simp [intOf]; omega
            · have hke : k = code.length := by omega
              subst hke
              have HCM : Hid (∀ j, j < ((List.range 16).map s.mem).length → wr.cell? ⟨L.gm, 0 + j, none⟩ = some (.int .i64 ((((List.range 16).map s.mem)[j]?.getD 0 : Nat) : Int))) := by
                intro j hj
                have hj' : j < 16 := by simpa using hj
                rw [range16_at _ hj', Nat.zero_add]
                exact hIq.cm j hj'
              have hlr := regsTo_length s code.length
              clear hIq
              go_wp2_with (at_builtin; go_must (refine wpList_pushL rfl (.tmp 65) (.tmp 69) 44 rfl w9.heap.size w9.heap.size w9 3 Try.underlying44 Try.infoIntM _ _ ((List.range 16).map s.mem) L.gm 0 16 16 (by simp) (by rfl) (by rfl) HCM.out hown (by simp; omega) hbq (Nat.le_refl _) hbq.size ?_); intro v' w1 hown1 hb1 _; obtain ⟨g, cap, hv, hmet⟩ := HMT.out v' w1 hown1 hb1; obtain ⟨bx0, bx1, bx2⟩ := HBOX.out w1 hb1; have HO1 : Hid _ := hown1; have HB1 : Hid _ := hb1; have HME : Hid _ := hmet; subst hv; clear hown hbq hown1 hb1 hmet)
              refine Calls.mono HME.out ?_
              rintro r w5 ⟨rfl, hb5⟩
              have HB5 : Hid _ := hb5
              clear hb5
              go_wp2
              go_ret2
              rw [HPE.out]
              refine ⟨.slice (some ⟨g, 0, none⟩) (endS code.length s).length cap, rfl, Own.rebase (Own.kept (base := w9.heap.size) HO1.out HB5.out) hwr, (HBASE.out _ HB1.out).trans (HB5.out.mono ?_)⟩
              have := HB1.out.size
              omega

end Go.Proofs.Ytokfiflflcfidaa
