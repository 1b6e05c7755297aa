import Derived.Test.YtokfiflflcfidabRows
import Derived.Test.YtokfiflflcfidabPgM
import Derived.Test.YtokfiflflcfidabPMS
import Derived.WalkKit
import Derived.WalkSpells
import Derived.WalkLawsBesides
namespace Go.Proofs.Ytokfiflflcfidab
open Go.RowKit

set_option maxRecDepth 100000 in
set_option maxHeartbeats 800000 in
theorem ppick_any (c : Int) (hc : -9223372036854775808 ≤ c ∧ c ≤ 9223372036854775807) (n : Nat) (hn : 0 < n ∧ n ≤ 32) (w : World) :
    Calls Try.prog 31 #[.int .i64 c, .int .i64 n] w fun r w' => r = .returned (.int .i64 (pickN c n : Nat)) ∧ w' = w := by
  have HP : Hid (((pickN c n : Nat) : Int) = (if c < 0 then -(c + 1) else c) % (n : Int)) := by
    show _ = _
    unfold pickN
    have h1 := Int.emod_nonneg (if c < 0 then -(c + 1) else c) (by omega : (n : Int) ≠ 0)
    omega
  have hn0 : ¬ ((n : Int) = 0) := by omega
  have hnn : ¬ (n = 0) := by omega
  have hn1 : ¬ ((n : Int) < 1) := by omega
  obtain ⟨hc1, hc2⟩ := hc
  by_cases h : c < 0
  · go_enter Try.func31, Try.ntmps31
    go_wp2
    go_ret
    refine ⟨?_, rfl⟩
    show Ending.returned (Value.int .i64 (-((c + 1).tmod (n : Int)))) = _
    rw [HP.out, if_pos h, ← Int.neg_tmod, Int.tmod_eq_emod_of_nonneg (by omega)]
  · go_enter Try.func31, Try.ntmps31
    go_wp2
    go_ret
    refine ⟨?_, rfl⟩
    show Ending.returned (Value.int .i64 (c % (n : Int))) = _
    rw [HP.out, if_neg (by omega)]

theorem makeMoveP_any (code : List (List RIns)) (s : St) (k : Nat) (b : Bool) (model M : Nat) (cv : Value) (w0 w : World) (h : PAt w0 w M model code s) (hC : CodesRd w0 cv code) (hS : SndC code) (hm : model = 0 ∨ model = 1) (hmv : (k, b) ∈ mvs code s.th) :
    Calls Try.prog 32 #[.pointer (some ⟨M, 0, none⟩), cv, .agg #[.int .i64 k, .bool b]] w fun r w' => r = .returned (.tuple #[]) ∧ PAt w0 w' M model code (moveS code model s (k, b)) := by
  obtain ⟨hk, h2⟩ := (mem_mvs code s.th (k, b)).1 hmv
  dsimp only at hk h2
  rcases h2 with ⟨rfl, hc⟩ | ⟨rfl, hb⟩
  · exact (makeStep_any code s k model M cv w0 w h hC hS hm hk (canS_pc hc)).mono (fun r w' ⟨h1, h2, _⟩ => ⟨h1, h2⟩)
  · exact (makeDrain_any code s k model M cv w0 w h hC hk (by
      cases hx : (s.th k).buf with
      | nil => rw [hx] at hb; simp at hb
      | cons a l => simp)).mono (fun r w' ⟨h1, h2, _⟩ => ⟨h1, h2⟩)
theorem pmovesAt_any (code : List (List RIns)) (s : St) (model M : Nat) (cv : Value) (w0 w : World) (h : PAt w0 w M model code s) (hC : CodesRd w0 cv code) (hS : SndC code) :
    Calls Try.prog 30 #[.pointer (some ⟨M, 0, none⟩), cv] w fun r w' => ∃ v, r = .returned v ∧ MvRd w' v (mvs code s.th) ∧ PAt w0 w' M model code s := by
  have h' := h
  obtain ⟨L, rfl, hI, hB, hO⟩ := h
  refine (pmoves_any code s.mem s.th w0.heap.size model L cv w hI (hC.kept hB) hS.2.1).mono ?_
  rintro r w' ⟨v, rfl, hown, hb⟩
  exact ⟨v, rfl, hown.rd, h'.kept hb⟩

set_option maxRecDepth 100000 in
set_option maxHeartbeats 1600000 in
theorem playTest_any (code : List (List RIns)) (model : Nat) (hm : model = 0 ∨ model = 1) (script : List Int) (cv sv : Value) (w : World) (hC : CodesRd w cv code) (hS : SndC code) (hSc : ScrRd w sv script) :
    Calls Try.prog 21 #[cv, .int .i64 model, sv] w fun r w' => ∃ M, r = .returned (.pointer (some ⟨M, 0, none⟩)) ∧ PAt w w' M model code (playS code model script) := by
  have HC : Hid _ := hC
  obtain ⟨_, cb, co, cc, rfl, hcbl, hcc⟩ := hC
  obtain ⟨sa, sc, rfl, hsr⟩ := hSc
  have HSR : Hid _ := hsr
  clear hcc hsr
  go_enter Try.func21, Try.ntmps21
  go_wp2_with fail
  refine (newMachine_any code model _ w HC.out hS).mono ?_
  rintro r w1 ⟨M, rfl, hP1⟩
  have HP1 : Hid _ := hP1
  clear hP1
  go_wp2_with fail
  refine (pmovesAt_any code st0 model M _ w w1 HP1.out HC.out hS).mono ?_
  rintro r w2 ⟨v2, rfl, hr2, hP2⟩
  have HR2 : Hid _ := hr2
  have HP2 : Hid _ := hP2
  clear hr2 hP2
  go_wp2
  go_loopw [8, 9] (fun v i wr => ∃ n : Nat, i = .int .i64 n ∧ Going code model script n ∧ MvRd wr v (mvs code (goN code model script n).th) ∧ PAt w wr M model code (goN code model script n)) (fun _ i _ => 1025 - (intOf i).toNat)
  case atStart => exact ⟨0, rfl, fun m hm => by omega, HR2.out, HP2.out⟩
  case round =>
    obtain ⟨n, rfl, hg, hr, hP⟩ := hrel
    have hn1 := go_le code hS model hm script n hg
    have HG : Hid _ := hg
    have HR : Hid _ := hr
    have HP : Hid (PAt w wr M model code (goN code model script n)) := hP
    have hml : (mvs code (goN code model script n).th).length ≤ 32 := by have := mvTo_length code (goN code model script n).th code.length; have := hS.2.1; unfold mvs; omega
    have HEND : Hid _ := go_play code hS model hm script n hg
    have HNX : Hid (goN code model script (n + 1) = moveN code model (goN code model script n) (if n < script.length then pickN (script[n]?.getD 0) (mvs code (goN code model script n).th).length else 0)) := rfl
    obtain ⟨va, vc, rfl, hvr⟩ := hr
    have HVR : Hid _ := hvr
    have hbs := hP.below
    have HBS : Hid _ := hbs
    clear hg hP hvr hbs
    generalize hs : goN code model script n = s at *
    have HS : Hid _ := hs
    clear hs
    have hmlen : ∃ ml, (mvs code s.th).length = ml := ⟨_, rfl⟩
    obtain ⟨ml, hml2⟩ := hmlen
    by_cases h0 : 0 < ml
    · have h0i : (0 : Int) < (ml : Int) := by omega
      have HGN : Hid (Going code model script (n + 1)) := fun m hm' => by
        by_cases hmn : m = n
        · rw [hmn, HS.out, hml2]; exact h0
        · exact HG.out m (by omega)
      -- the move that is picked
      obtain ⟨p, hpl, hpe⟩ : ∃ p, p < ml ∧ p = (if n < script.length then pickN (script[n]?.getD 0) ml else 0) := by
        refine ⟨_, ?_, rfl⟩
        split
        · exact pickN_lt _ h0
        · exact h0
      have hmem : (mvs code s.th)[p]?.getD (0, false) ∈ mvs code s.th := by rw [List.getElem?_eq_getElem (by omega)]; exact List.getElem_mem _
      have HNS : Hid (goN code model script (n + 1) = moveS code model s ((mvs code s.th)[p]?.getD (0, false))) := by
        show _ = _
        rw [HNX.out, hml2, ← hpe]
        unfold moveN
        rw [List.getElem?_eq_getElem (by omega)]
        rfl
      obtain ⟨vb, vo, rfl, hvl, hv1, hv2⟩ := HVR.out p (by omega)
      generalize (mvs code s.th)[p]?.getD (0, false) = mv at *
      obtain ⟨mt, md⟩ := mv
      dsimp only at hv1 hv2
      have HMK : Hid _ := makeMoveP_any code s mt md model M (.slice (some ⟨cb, co, none⟩) code.length cc) w wr HP.out HC.out hS hm hmem
      have HMV : Hid (∀ wq, PAt w wq M model code (moveS code model s (mt, md)) → Calls Try.prog 30 #[.pointer (some ⟨M, 0, none⟩), .slice (some ⟨cb, co, none⟩) code.length cc] wq fun r w' => ∃ v, r = .returned v ∧ MvRd w' v (mvs code (moveS code model s (mt, md)).th) ∧ PAt w w' M model code (moveS code model s (mt, md))) := fun wq hq => pmovesAt_any code (moveS code model s (mt, md)) model M _ w wq hq HC.out hS
      clear HVR HNX hmem
      rw [hml2]
      by_cases hns : n < script.length
      · have hnsi : (n : Int) < (script.length : Int) := by omega
        rw [if_pos hns] at hpe
        obtain ⟨b, off, rfl, hb, hcell, hrange⟩ := HSR.out n hns
        have hcell2 := (HBS.out.cell (p := ⟨b, off + n, none⟩) hb).trans hcell
        have hpk := ppick_any (script[n]?.getD 0) hrange ml ⟨h0, by omega⟩
        rw [← hpe] at hpk
        have HPK : Hid _ := hpk
        clear hcell hpk hpe hns
        generalize script[n]?.getD 0 = x at *
        go_wp2_with fail
        refine Calls.mono (HPK.out _) ?_
        rintro r w3 ⟨rfl, rfl⟩
        go_wp2_with fail
        refine Calls.mono HMK.out ?_
        rintro r w4 ⟨rfl, hP4⟩
        have HP4 : Hid _ := hP4
        clear hP4 hv1 hv2 hcell2
        go_wp2_with fail
        refine Calls.mono (HMV.out _ HP4.out) ?_
        rintro r w5 ⟨v5, rfl, hr5, hP5⟩
        have HR5 : Hid _ := hr5
        have HP5 : Hid _ := hP5
        clear hr5 hP5
        go_wp2
        go_roundw
        case rel => exact ⟨n + 1, by go_num, HGN.out, by rw [HNS.out]; exact HR5.out, by rw [HNS.out]; exact HP5.out⟩
        case measure => simp [intOf]; omega
      · have hnsi : ¬ ((n : Int) < (script.length : Int)) := by omega
        rw [if_neg hns] at hpe
        subst hpe
        simp only [Nat.zero_mul, Nat.add_zero] at hv1 hv2
        clear hns
        go_wp2_with fail
        refine Calls.mono HMK.out ?_
        rintro r w4 ⟨rfl, hP4⟩
        have HP4 : Hid _ := hP4
        clear hP4 hv1 hv2
        go_wp2_with fail
        refine Calls.mono (HMV.out _ HP4.out) ?_
        rintro r w5 ⟨v5, rfl, hr5, hP5⟩
        have HR5 : Hid _ := hr5
        have HP5 : Hid _ := hP5
        clear hr5 hP5
        go_wp2
        go_roundw
        case rel => exact ⟨n + 1, by go_num, HGN.out, by rw [HNS.out]; exact HR5.out, by rw [HNS.out]; exact HP5.out⟩
        case measure => simp [intOf]; omega
    · have h0i : ¬ ((0 : Int) < (ml : Int)) := by omega
      have HF : Hid (playS code model script = s) := HEND.out (by omega)
      rw [hml2]
      clear HVR
      go_wp2
      go_ret
      exact ⟨M, rfl, by rw [HF.out]; exact HP.out⟩

end Go.Proofs.Ytokfiflflcfidab
