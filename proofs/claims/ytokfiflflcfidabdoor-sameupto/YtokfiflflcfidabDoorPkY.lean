import Derived.Test.YtokfiflflcfidabDoorStM
import Derived.Test.YtokfiflflcfidabDoorFrmM
import Derived.Test.YtokfiflflcfidabDoorRows
import Derived.Test.YtokfiflflcfidabDoorPMS
import Derived.Test.YtokfiflflcfidabDoorBldQ
import Derived.Test.YtokfiflflcfidabDoorHapZ
import Derived.WalkKit
import Derived.WalkSpells
import Derived.WalkLawsBesides
import Derived.RegionTactic
import Derived.BigRegion
import Derived.Deep.QuietTactic
import Derived.BigQuiet
import Derived.Test.YtokfiflflcfidabDoorQtoR
import Derived.Test.YtokfiflflcfidabDoorLblW
import Derived.Test.YtokfiflflcfidabDoorSndM
namespace Go.Proofs.YtokfiflflcfidabDoor
open Go.RowKit

/-- how much is left to do for the threads below k -/
def muTo (code : List (List RIns)) (s : St) : Nat → Nat
  | 0 => 0
  | k + 1 => muTo code s k + (2 * ((code[k]?.getD []).length - (s.th k).pc) + (s.th k).buf.length)
def mu (code : List (List RIns)) (s : St) : Nat := muTo code s code.length

theorem mem_mvTo (code : List (List RIns)) (th : Nat → Th) (n : Nat) (mv : Nat × Bool) : mv ∈ mvTo code th n ↔ mv.1 < n ∧ ((mv.2 = false ∧ canS code th mv.1 = true) ∨ (mv.2 = true ∧ (th mv.1).buf.isEmpty = false)) := by
  induction n with
  | zero => simp [mvTo]
  | succ n ih =>
    obtain ⟨k, b⟩ := mv
    simp only [mvTo, List.mem_append, ih]
    constructor
    · rintro ((⟨h1, h2⟩ | h) | h)
      · exact ⟨by omega, h2⟩
      · split at h
        · rename_i hc
          simp only [List.mem_singleton, Prod.mk.injEq] at h
          obtain ⟨rfl, rfl⟩ := h
          exact ⟨by omega, Or.inl ⟨rfl, hc⟩⟩
        · cases h
      · split at h
        · cases h
        · rename_i hc
          simp only [List.mem_singleton, Prod.mk.injEq] at h
          obtain ⟨rfl, rfl⟩ := h
          exact ⟨by omega, Or.inr ⟨rfl, by simpa using hc⟩⟩
    · rintro ⟨h1, h2⟩
      by_cases hk : k = n
      · subst hk
        rcases h2 with ⟨h3, h4⟩ | ⟨h3, h4⟩
        · subst h3
          exact Or.inl (Or.inr (by rw [if_pos h4]; simp))
        · subst h3
          exact Or.inr (by rw [if_neg (by simp [h4])]; simp)
      · exact Or.inl (Or.inl ⟨by omega, h2⟩)
theorem mem_mvs (code : List (List RIns)) (th : Nat → Th) (mv : Nat × Bool) : mv ∈ mvs code th ↔ mv.1 < code.length ∧ ((mv.2 = false ∧ canS code th mv.1 = true) ∨ (mv.2 = true ∧ (th mv.1).buf.isEmpty = false)) := mem_mvTo code th _ mv

theorem muTo_congr (code : List (List RIns)) (s s' : St) (n : Nat) (h : ∀ k, k < n → s'.th k = s.th k) : muTo code s' n = muTo code s n := by
  induction n with
  | zero => rfl
  | succ n ih => rw [muTo, muTo, ih (fun k hk => h k (by omega)), h n (by omega)]
/-- a thread that has less left, the others as they were -/
theorem muTo_drop (code : List (List RIns)) (s s' : St) (k n : Nat) (hk : k < n) (h : ∀ j, j ≠ k → s'.th j = s.th j) (hd : 2 * ((code[k]?.getD []).length - (s'.th k).pc) + (s'.th k).buf.length + 1 ≤ 2 * ((code[k]?.getD []).length - (s.th k).pc) + (s.th k).buf.length) : muTo code s' n + 1 ≤ muTo code s n := by
  induction n with
  | zero => omega
  | succ n ih =>
    rw [muTo, muTo]
    by_cases hkn : k = n
    · subst hkn
      rw [muTo_congr code s s' k (fun j hj => h j (by omega))]
      omega
    · have := ih (by omega)
      rw [h n (by omega)]
      omega
theorem mu_move (code : List (List RIns)) (model : Nat) (_hm : model = 0 ∨ model = 1) (s : St) (mv : Nat × Bool) (h : mv ∈ mvs code s.th) : mu code (moveS code model s mv) + 1 ≤ mu code s := by
  obtain ⟨hk, h2⟩ := (mem_mvs code s.th mv).1 h
  obtain ⟨k, b⟩ := mv
  dsimp only at hk h2
  rcases h2 with ⟨rfl, hc⟩ | ⟨rfl, hb⟩
  · have hpc := canS_pc hc
    refine muTo_drop code s _ k _ hk (fun j hj => ?_) ?_
    · show updN s.th k _ j = _
      rw [updN_other _ _ hj]
    · show 2 * (_ - ((updN s.th k _) k).pc) + ((updN s.th k _) k).buf.length + 1 ≤ _
      rw [updN_same]
      unfold stpT
      dsimp only
      split
      · simp; omega
      · omega
  · obtain ⟨x, l, hl⟩ : ∃ x l, (s.th k).buf = x :: l := by
      cases hx : (s.th k).buf with
      | nil => simp [hx] at hb
      | cons x l => exact ⟨x, l, rfl⟩
    have hd : moveS code model s (k, true) = ⟨updN s.mem x.cell x.val, updN s.th k { s.th k with buf := l }⟩ := by
      show drainS k s = _
      unfold drainS
      rw [hl]
    rw [hd]
    refine muTo_drop code s _ k _ hk (fun j hj => ?_) ?_
    · show updN s.th k _ j = _
      rw [updN_other _ _ hj]
    · show 2 * (_ - ((updN s.th k _) k).pc) + ((updN s.th k _) k).buf.length + 1 ≤ _
      rw [updN_same, hl]
      simp
      omega
theorem mu_moveN (code : List (List RIns)) (model : Nat) (hm : model = 0 ∨ model = 1) (s : St) (n : Nat) (h : n < (mvs code s.th).length) : mu code (moveN code model s n) + 1 ≤ mu code s := by
  unfold moveN
  rw [List.getElem?_eq_getElem h]
  exact mu_move code model hm s _ (List.getElem_mem h)
theorem mu_run (code : List (List RIns)) (model : Nat) (hm : model = 0 ∨ model = 1) (l : List Int) (s : St) : mu code (runS code model l s) ≤ mu code s := by
  induction l generalizing s with
  | nil => exact Nat.le_refl _
  | cons c l ih =>
    rw [runS]
    split
    · exact Nat.le_refl _
    · rename_i h
      have h1 := ih (moveN code model s (pickN c (mvs code s.th).length))
      have h2 := mu_moveN code model hm s (pickN c (mvs code s.th).length) (pickN_lt _ (by omega))
      omega
theorem mu_settle (code : List (List RIns)) (model : Nat) (hm : model = 0 ∨ model = 1) (n : Nat) (s : St) : (mvs code (settle code model n s).th).length = 0 ∨ mu code (settle code model n s) + n ≤ mu code s := by
  induction n with
  | zero => exact Or.inr (Nat.le_refl _)
  | succ n ih =>
    rw [settle]
    split
    · rename_i h
      rcases ih with h0 | h1
      · omega
      · have := mu_moveN code model hm _ 0 h
        exact Or.inr (by omega)
    · rename_i h
      exact Or.inl (by omega)
theorem muTo_init (code : List (List RIns)) (hS : SndC code) (n : Nat) (hn : n ≤ code.length) : muTo code st0 n ≤ 64 * n := by
  induction n with
  | zero => exact Nat.le_refl _
  | succ n ih =>
    rw [muTo]
    have h1 := ih (by omega)
    have h2 := (hS.2.2 n (by omega)).2.1
    have h3 : (st0.th n).buf.length = 0 := rfl
    rw [h3]
    omega
/-- a play ends where no move is left -/
theorem play_done (code : List (List RIns)) (hS : SndC code) (model : Nat) (hm : model = 0 ∨ model = 1) (l : List Int) : (mvs code (playS code model l).th).length = 0 := by
  unfold playS
  rcases mu_settle code model hm 1024 (runS code model l st0) with h | h
  · exact h
  · have h1 := mu_run code model hm l st0
    have h2 := muTo_init code hS code.length (Nat.le_refl _)
    have h3 := hS.2.1
    have h4 : mu code st0 = muTo code st0 code.length := rfl
    by_cases h5 : 0 < (mvs code (settle code model 1024 (runS code model l st0)).th).length
    · have := mu_moveN code model hm _ 0 h5
      omega
    · omega
theorem play_end (code : List (List RIns)) (hS : SndC code) (model : Nat) (hm : model = 0 ∨ model = 1) (l : List Int) (k : Nat) (hk : k < code.length) : ((playS code model l).th k).buf = [] ∧ (code[k]?.getD []).length ≤ ((playS code model l).th k).pc := by
  have h := play_done code hS model hm l
  have hnil : mvs code (playS code model l).th = [] := List.eq_nil_of_length_eq_zero h
  have hb : ((playS code model l).th k).buf = [] := by
    cases hx : ((playS code model l).th k).buf with
    | nil => rfl
    | cons x t =>
      have := (mem_mvs code (playS code model l).th (k, true)).2 ⟨hk, Or.inr ⟨rfl, by simp [hx]⟩⟩
      rw [hnil] at this
      cases this
  refine ⟨hb, ?_⟩
  apply Nat.le_of_not_lt
  intro hlt
  have := (mem_mvs code (playS code model l).th (k, false)).2 ⟨hk, Or.inl ⟨rfl, by unfold canS; rw [hb]; simp [hlt]⟩⟩
  rw [hnil] at this
  cases this

/-- what every move keeps, a play keeps -/
theorem play_keeps (code : List (List RIns)) (model : Nat) (P : St → Prop) (h0 : P st0) (hs : ∀ s mv, P s → mv ∈ mvs code s.th → P (moveS code model s mv)) (l : List Int) : P (playS code model l) := by
  have hN : ∀ s n, P s → P (moveN code model s n) := by
    intro s n h
    unfold moveN
    cases hx : (mvs code s.th)[n]? with
    | none => exact h
    | some mv => exact hs s mv h (List.mem_of_getElem? hx)
  have hR : ∀ l s, P s → P (runS code model l s) := by
    intro l
    induction l with
    | nil => intro s h; exact h
    | cons c l ih =>
      intro s h
      rw [runS]
      split
      · exact h
      · exact ih _ (hN _ _ h)
  have hT : ∀ n s, P s → P (settle code model n s) := by
    intro n s h
    induction n with
    | zero => exact h
    | succ n ih =>
      rw [settle]
      split
      · exact hN _ _ ih
      · exact ih
  exact hT _ _ (hR _ _ h0)

theorem endS_reg (n : Nat) (s : St) {k r : Nat} (hk : k < n) (hr : r < 16) : (endS n s)[k * 16 + r]?.getD 0 = (s.th k).regs[r]?.getD 0 := by
  have hR : ∀ n, k < n → (regsTo s n)[k * 16 + r]?.getD 0 = (s.th k).regs[r]?.getD 0 := by
    intro n
    induction n with
    | zero => intro h; omega
    | succ n ih =>
      intro h
      rw [regsTo_succ]
      by_cases hkn : k = n
      · subst hkn
        rw [List.getElem?_append_right (by rw [regsTo_length]; omega), regsTo_length, show k * 16 + r - k * 16 = r from by omega]
        exact range16_at _ hr
      · rw [List.getElem?_append_left (by rw [regsTo_length]; omega)]
        exact ih (by omega)
  unfold endS
  rw [List.getElem?_append_left (by rw [regsTo_length]; omega)]
  exact hR n hk
theorem endS_mem (n : Nat) (s : St) {c : Nat} (hc : c < 16) : (endS n s)[n * 16 + c]?.getD 0 = s.mem c := by
  unfold endS
  rw [List.getElem?_append_right (by rw [regsTo_length]; omega), regsTo_length, show n * 16 + c - n * 16 = c from by omega]
  exact range16_at _ hc

end Go.Proofs.YtokfiflflcfidabDoor

namespace Go.Proofs.YtokfiflflcfidabDoor
open Go.RowKit

/-- how many of the moves make an instruction of thread t -/
def stA (l : List (Nat × Bool)) (t : Nat) : Nat := l.countP fun m => m.1 == t && !m.2
/-- the moves with which event a happens, behind the moves l -/
def mvE (L : List Nat) (l : List (Nat × Bool)) (a : Nat) : List (Nat × Bool) :=
  List.replicate (posn L a + 1 - stA l (thrOf L a)) (thrOf L a, false) ++ if kd L a then [(thrOf L a, true)] else []
/-- the moves with which the first n events of the order happen -/
def moTo (L : List Nat) : Nat → List (Nat × Bool)
  | 0 => []
  | n + 1 => moTo L n ++ mvE L (moTo L n) (nx L (ordTo L n))
def moves0 (L : List Nat) : List (Nat × Bool) := moTo L L.length
/-- the number of a move among those that can be made, or 0 -/
def pkI (l : List (Nat × Bool)) (m : Nat × Bool) : Nat := if firstNo (fun k => !(l[k]?.getD (0, false) == m)) l.length < l.length then firstNo (fun k => !(l[k]?.getD (0, false) == m)) l.length else 0
/-- the script that makes the first n moves of ms, and the machine behind it -/
def pkTo (code : List (List RIns)) (ms : List (Nat × Bool)) : Nat → List Nat × St
  | 0 => ([], st0)
  | n + 1 => ((pkTo code ms n).1 ++ [pkI (mvs code (pkTo code ms n).2.th) (ms[n]?.getD (0, false))], moveS code 1 (pkTo code ms n).2 (ms[n]?.getD (0, false)))
/-- a move that can be made -/
def okMv (code : List (List RIns)) (s : St) (m : Nat × Bool) : Prop := m ∈ mvs code s.th
/-- what Script answers -/
def scrL (L : List Nat) : List Nat := (pkTo (codeOf L) (moves0 L) (moves0 L).length).1

theorem stA_nil (t : Nat) : stA [] t = 0 := rfl
theorem stA_append (a b : List (Nat × Bool)) (t : Nat) : stA (a ++ b) t = stA a t + stA b t := by unfold stA; rw [List.countP_append]
theorem stA_rep (n t k : Nat) : stA (List.replicate n (t, false)) k = if t = k then n else 0 := by
  unfold stA
  rw [List.countP_replicate]
  by_cases h : t = k
  · rw [if_pos h, if_pos (by simp [h])]
  · rw [if_neg h, if_neg (by simp [h])]
theorem stA_le (l : List (Nat × Bool)) (t : Nat) : stA l t ≤ l.length := List.countP_le_length
theorem stA_succ (l : List (Nat × Bool)) (n t : Nat) (h : n < l.length) : stA (l.take (n + 1)) t = stA (l.take n) t + b1 ((l[n]?.getD (0, false)).1 == t && !(l[n]?.getD (0, false)).2) := by
  have : l.take (n + 1) = l.take n ++ [l[n]?.getD (0, false)] := by rw [List.take_succ_eq_append_getElem h]; simp [h]
  rw [this, stA_append]
  congr 1
  unfold stA b1
  rw [List.countP_cons, List.countP_nil]
  simp
theorem posn_small (L : List Nat) (a : Nat) : posn L a + 1 ≤ 2 * (a + 1) := by
  have h1 := cdTo_len L (thrOf L a) (a + 1)
  have h2 : posn L a < (cdTo L (thrOf L a) (a + 1)).length := posn_in L (Nat.lt_succ_self a)
  omega
theorem mvE_len (L : List Nat) (l : List (Nat × Bool)) (a : Nat) : (mvE L l a).length ≤ 2 * (a + 1) + 1 := by
  have := posn_small L a
  unfold mvE
  rw [List.length_append, List.length_replicate]
  split <;> simp <;> omega

end Go.Proofs.YtokfiflflcfidabDoor

namespace Go.Proofs.YtokfiflflcfidabDoor
open Go.RowKit

theorem cdTo_step (L : List Nat) (t n : Nat) : (cdTo L t (n + 1)).length = (cdTo L t n).length + if thrOf L n = t then 1 + b1 (fE (L[prv L n]?.getD 0)) else 0 := by
  rw [cdTo, List.length_append]
  by_cases h : thrOf L n = t
  · rw [if_pos h, if_pos h]
    unfold em
    cases fE (L[prv L n]?.getD 0) <;> simp [b1]
  · rw [if_neg h, if_neg h]; rfl

set_option maxRecDepth 100000 in
set_option maxHeartbeats 800000 in
theorem stepsUpTo_any (L : List Nat) (g cap a : Nat) (w : World) (hP : PRd w g L) (hE : ∀ x ∈ L, x < 14) (ha : a < L.length) (hl2 : L.length ≤ 64) :
    Calls Tryd.prog 70 #[.slice (some ⟨g, 0, none⟩) L.length cap, .int .i64 a] w fun r w' => r = .returned (.int .i64 ((posn L a + 1 : Nat) : Int)) ∧ Below w.heap.size w w' := by
  have ha0 : ¬ ((a : Int) < 0) := by omega
  have ha1 : ¬ ((L.length : Int) ≤ (a : Int)) := by omega
  have z2 := hP.thr a ha
  have HPO : Hid ((cdTo L (thrOf L a) (a + 1)).length = posn L a + 1) := by
    show _ = _
    have : posn L a < (cdTo L (thrOf L a) (a + 1)).length := posn_in L (Nat.lt_succ_self a)
    unfold posn at this ⊢
    omega
  go_enter Tryd.func70, Tryd.ntmps70
  go_wp2
  go_loopw [5, 6] (fun st i wr => ∃ n : Nat, n ≤ a + 1 ∧ i = .int .i64 n ∧ st = .int .i64 ((cdTo L (thrOf L a) n).length : Nat) ∧ ∃ m, wr = w.drewN m) (fun _ i _ => a + 1 - (intOf i).toNat)
  case atStart => exact ⟨0, Nat.zero_le _, rfl, rfl, 0, rfl⟩
  case round =>
    obtain ⟨n, hn, rfl, rfl, m, rfl⟩ := hrel
    have hcl := cdTo_len L (thrOf L a) n
    by_cases hlt : n ≤ a
    · have hle : (n : Int) ≤ (a : Int) := by omega
      have q0 := hP.into n (by omega)
      have q2 := hP.thr n (by omega)
      have HS : Hid _ := cdTo_step L (thrOf L a) n
      have hx := getD_lt hE (prv L n)
      generalize L[prv L n]?.getD 0 = x at *
      generalize (cdTo L (thrOf L a) n).length = sl at *
      have HTT : Hid (thrOf L n = thrOf L a ∨ ¬ thrOf L n = thrOf L a) := Classical.em _
      generalize thrOf L n = t at *
      generalize thrOf L a = ta at *
      rcases HTT.out with ht | ht
      · have htI : ((t : Int) == (ta : Int)) = true := by rw [beq_iff_eq]; omega
        have HS2 : Hid ((cdTo L ta (n + 1)).length = sl + (1 + b1 (fE x))) := by show _ = _; rw [HS.out, if_pos ht]
        subst ht
        cases hf : fE x
        · rw [hf] at HS2
          go_wp2
          go_quiet (fail)
          go_wp2_with (go_at_call 84; refine (isFence_any x hx _).mono ?_; rintro r w3 ⟨rfl, rfl⟩; rw [hf])
          go_roundw
          case rel => exact ⟨n + 1, by omega, by go_num, by rw [HS2.out]; simp [b1], _, rfl⟩
          case measure => simp [intOf]; omega
        · rw [hf] at HS2
          go_wp2
          go_quiet (fail)
          go_wp2_with (go_at_call 84; refine (isFence_any x hx _).mono ?_; rintro r w3 ⟨rfl, rfl⟩; rw [hf])
          go_roundw
          case rel => exact ⟨n + 1, by omega, by go_num, by rw [HS2.out]; simp [b1]; omega, _, rfl⟩
          case measure => simp [intOf]; omega
      · have htI : ((t : Int) == (ta : Int)) = false := by rw [beq_eq_false_iff_ne]; omega
        have HS2 : Hid ((cdTo L ta (n + 1)).length = sl) := by show _ = _; rw [HS.out, if_neg ht]; rfl
        clear ht
        go_wp2
        go_quiet (fail)
        go_wp2
        go_roundw
        case rel => exact ⟨n + 1, by omega, by go_num, by rw [HS2.out], _, rfl⟩
        case measure => simp [intOf]; omega
    · have hle : ¬ ((n : Int) ≤ (a : Int)) := by omega
      have : n = a + 1 := by omega
      subst this
      rw [HPO.out]
      go_wp2
      go_ret
      exact ⟨rfl, below_drewN (Below.refl _ _) _⟩

set_option maxRecDepth 100000 in
set_option maxHeartbeats 800000 in
theorem stepsAmong_any (l : List (Nat × Bool)) (t : Nat) (v : Value) (w : World) (h : MvRd w v l) (hl : l.length ≤ 1000) :
    Calls Tryd.prog 71 #[v, .int .i64 t] w fun r w' => r = .returned (.int .i64 (stA l t : Nat)) ∧ Below w.heap.size w w' := by
  obtain ⟨a, cap, rfl, hR⟩ := h
  have HR : Hid _ := hR
  clear hR
  go_enter Tryd.func71, Tryd.ntmps71
  go_wp2
  go_loopw [5, 10] (fun st i wr => ∃ n : Nat, n ≤ l.length ∧ i = .int .i64 n ∧ st = .int .i64 (stA (l.take n) t : Nat) ∧ Below w.heap.size w wr) (fun _ i _ => l.length - (intOf i).toNat)
  case atStart => exact ⟨0, Nat.zero_le _, rfl, rfl, Below.refl _ _⟩
  case round =>
    obtain ⟨n, hn, rfl, rfl, hb⟩ := hrel
    have hsl := stA_le (l.take n) t
    rw [List.length_take] at hsl
    have HB : Hid _ := hb
    have hbs := hb.size
    by_cases hlt : n < l.length
    · obtain ⟨b, off, rfl, hbl, h1, h2⟩ := HR.out n hlt
      have y1 := (hb.cell (p := ⟨b, off + n * 2, none⟩) hbl).trans h1
      have y2 := (hb.cell (p := ⟨b, off + n * 2 + 1, none⟩) hbl).trans h2
      have HS : Hid _ := stA_succ l n t hlt
      have hbn : ¬ (b = wr.heap.size) := by omega
      clear h1 h2 hb
      generalize (l[n]?.getD (0, false)).1 = mt at *
      generalize (l[n]?.getD (0, false)).2 = md at *
      generalize stA (l.take n) t = sl at *
      by_cases ht : mt = t
      · have htI : ((mt : Int) == (t : Int)) = true := by rw [beq_iff_eq]; omega
        subst ht
        cases md
        · have HS2 : Hid (stA (l.take (n + 1)) mt = sl + 1) := by show _ = _; rw [HS.out]; simp [b1]
          go_wp2
          go_roundw
          case rel => exact ⟨n + 1, by omega, by go_num, by rw [HS2.out]; go_num, HB.out.alloc hbs _⟩
          case measure => simp [intOf]; omega
        · have HS2 : Hid (stA (l.take (n + 1)) mt = sl) := by show _ = _; rw [HS.out]; simp [b1]
          go_wp2
          go_roundw
          case rel => exact ⟨n + 1, by omega, by go_num, by rw [HS2.out], HB.out.alloc hbs _⟩
          case measure => simp [intOf]; omega
      · have htI : ((mt : Int) == (t : Int)) = false := by rw [beq_eq_false_iff_ne]; omega
        have HS2 : Hid (stA (l.take (n + 1)) t = sl) := by show _ = _; rw [HS.out, beq_eq_false_iff_ne.2 ht]; simp [b1]
        clear ht
        go_wp2
        go_roundw
        case rel => exact ⟨n + 1, by omega, by go_num, by rw [HS2.out], HB.out.alloc hbs _⟩
        case measure => simp [intOf]; omega
    · have : n = l.length := by omega
      subst this
      rw [List.take_length]
      clear hb
      go_wp2
      go_ret
      exact ⟨rfl, HB.out⟩

theorem pkI_here {l : List (Nat × Bool)} {m : Nat × Bool} {n : Nat} (hn : n < l.length) (hno : ∀ k, k < n → ¬ l[k]?.getD (0, false) = m) (h : l[n]?.getD (0, false) = m) : pkI l m = n := by
  have : firstNo (fun k => !(l[k]?.getD (0, false) == m)) l.length = n := firstNo_eq _ _ n (by omega) (fun k hk => by simpa using hno k hk) (Or.inr (by simp [h]))
  unfold pkI
  rw [this, if_pos hn]
theorem pkI_none {l : List (Nat × Bool)} {m : Nat × Bool} (hno : ∀ k, k < l.length → ¬ l[k]?.getD (0, false) = m) : pkI l m = 0 := by
  have : firstNo (fun k => !(l[k]?.getD (0, false) == m)) l.length = l.length := firstNo_eq _ _ _ (Nat.le_refl _) (fun k hk => by simpa using hno k hk) (Or.inl rfl)
  unfold pkI
  rw [this, if_neg (by omega)]

set_option maxRecDepth 100000 in
set_option maxHeartbeats 800000 in
theorem pickFor_any (l : List (Nat × Bool)) (mt : Nat) (md : Bool) (v : Value) (w : World) (h : MvRd w v l) (hl : l.length ≤ 1000) :
    Calls Tryd.prog 74 #[v, .agg #[.int .i64 mt, .bool md]] w fun r w' => r = .returned (.int .i64 (pkI l (mt, md) : Nat)) ∧ Below w.heap.size w w' := by
  have HRD : Hid _ := h
  obtain ⟨a, cap, rfl, hR⟩ := h
  have HR : Hid _ := hR
  clear hR
  have hb0 : Below w.heap.size w (w.alloc (.cells #[.int .i64 mt, .bool md] 122)) := (Below.refl _ _).alloc (Nat.le_refl _) _
  have HB0 : Hid _ := hb0
  have hs0 : (w.alloc (.cells #[.int .i64 mt, .bool md] 122)).heap.size = w.heap.size + 1 := by simp
  go_enter Tryd.func74, Tryd.ntmps74
  go_wp2
  go_loopw [9] (fun i wr => ∃ n : Nat, n ≤ l.length ∧ i = .int .i64 n ∧ (∀ k, k < n → ¬ l[k]?.getD (0, false) = (mt, md)) ∧ Below (w.heap.size + 1) (w.alloc (.cells #[.int .i64 mt, .bool md] 122)) wr) (fun i _ => l.length - (intOf i).toNat)
  case atStart => exact ⟨0, Nat.zero_le _, rfl, fun k hk => by omega, Below.refl _ _⟩
  case round =>
    obtain ⟨n, hn, rfl, hno, hb⟩ := hrel
    have HN : Hid _ := hno
    have HB : Hid _ := hb
    have hbs := hb.size
    rw [hs0] at hbs
    have HBW : Hid (Below w.heap.size w wr) := HB0.out.trans (hb.mono (by omega))
    have p0 : wr.cell? ⟨w.heap.size, 0, none⟩ = some (.int .i64 mt) := (hb.cell (p := ⟨w.heap.size, 0, none⟩) (by dsimp only; omega)).trans (by simp)
    have p1 : wr.cell? ⟨w.heap.size, 1, none⟩ = some (.bool md) := (hb.cell (p := ⟨w.heap.size, 1, none⟩) (by dsimp only; omega)).trans (by simp)
    have hwn : ¬ (w.heap.size = wr.heap.size) := by omega
    have hwl : w.heap.size < wr.heap.size := by omega
    by_cases hlt : n < l.length
    · obtain ⟨b, off, rfl, hbl, h1, h2⟩ := HR.out n hlt
      have y1 := (HBW.out.cell (p := ⟨b, off + n * 2, none⟩) hbl).trans h1
      have y2 := (HBW.out.cell (p := ⟨b, off + n * 2 + 1, none⟩) hbl).trans h2
      have hbn : ¬ (b = wr.heap.size) := by omega
      have HHE : Hid (l[n]?.getD (0, false) = (mt, md) → pkI l (mt, md) = n) := fun e => pkI_here hlt HN.out e
      have HNX : Hid (¬ l[n]?.getD (0, false) = (mt, md) → ∀ k, k < n + 1 → ¬ l[k]?.getD (0, false) = (mt, md)) := fun e k hk => by
        by_cases hkn : k = n
        · rw [hkn]; exact e
        · exact HN.out k (by omega)
      clear h1 h2 hb hno
      generalize hm1 : l[n]?.getD (0, false) = m1 at *
      clear hm1
      obtain ⟨t1, d1⟩ := m1
      dsimp only at y1 y2
      by_cases ht : t1 = mt
      · subst ht
        by_cases hd : d1 = md
        · subst hd
          have HR2 : Hid (pkI l (t1, d1) = n) := HHE.out rfl
          go_wp2
          go_ret
          exact ⟨by rw [HR2.out]; rfl, HBW.out.alloc (by omega) _⟩
        · have HX : Hid _ := HNX.out (fun e => hd (by simpa using e))
          have hdI : (d1 == md) = false := by rw [beq_eq_false_iff_ne]; exact hd
          clear hd
          go_wp2
          go_roundw
          case rel => exact ⟨n + 1, by omega, by go_num, HX.out, HB.out.alloc hbs _⟩
          case measure => simp [intOf]; omega
      · have HX : Hid _ := HNX.out (fun e => ht (by simp at e; exact e.1))
        have htI : ((t1 : Int) == (mt : Int)) = false := by rw [beq_eq_false_iff_ne]; omega
        clear ht
        go_wp2
        go_roundw
        case rel => exact ⟨n + 1, by omega, by go_num, HX.out, HB.out.alloc hbs _⟩
        case measure => simp [intOf]; omega
    · have : n = l.length := by omega
      subst this
      have HR2 : Hid (pkI l (mt, md) = 0) := pkI_none HN.out
      clear hb hno
      go_wp2
      go_ret
      exact ⟨by rw [HR2.out]; rfl, HBW.out⟩

end Go.Proofs.YtokfiflflcfidabDoor

namespace Go.Proofs.YtokfiflflcfidabDoor
open Go.RowKit

theorem rep_snoc {α : Type} (n : Nat) (x : α) : List.replicate (n + 1) x = List.replicate n x ++ [x] := by rw [List.replicate_succ']

set_option maxRecDepth 100000 in
set_option maxHeartbeats 1600000 in
theorem movesInOrder_any (L : List Nat) (g cap : Nat) (ov : Value) (w : World) (hP : PRd w g L) (hE : ∀ x ∈ L, x < 14) (hO : NumRd w ov (ordTo L L.length)) (hsh : shown L = true) (hl2 : L.length ≤ 16) :
    Calls Tryd.prog 40 #[.slice (some ⟨g, 0, none⟩) L.length cap, ov] w fun r w' => ∃ v, r = .returned v ∧ OwnMv w' w.heap.size 122 v (moves0 L) ∧ Below w.heap.size w w' := by
  have HO : Hid _ := hO
  obtain ⟨oa, oc, rfl, hor⟩ := hO
  have HOR : Hid (∀ i, i < L.length → ∃ b off, oa = some ⟨b, off, none⟩ ∧ b < w.heap.size ∧ w.cell? ⟨b, off + i, none⟩ = some (.int .i64 ((nx L (ordTo L i) : Nat) : Int))) := by
    intro i hi
    have := hor i (by rw [ordTo_length]; exact hi)
    rw [ordTo_at L hi] at this
    exact this
  have HSH : Hid (∀ n, n < L.length → nx L (ordTo L n) < L.length) := fun n hn => shown_at hsh hn
  have HOL : Hid _ := ordTo_length L L.length
  rw [HOL.out]
  clear hor hsh
  have HML : Hid (∀ n, n ≤ L.length → (moTo L n).length ≤ n * 34) := by
    intro n
    induction n with
    | zero => intro _; exact Nat.le_refl _
    | succ n ih =>
      intro hn
      have h1 := ih (by omega)
      have h2 := mvE_len L (moTo L n) (nx L (ordTo L n))
      have h3 := HSH.out n (by omega)
      rw [moTo, List.length_append]
      omega
  go_enter Tryd.func40, Tryd.ntmps40
  go_wp2
  go_loopw [5, 13] (fun v i wr => ∃ n : Nat, n ≤ L.length ∧ i = .int .i64 n ∧ OwnMv wr w.heap.size 122 v (moTo L n) ∧ Below w.heap.size w wr) (fun _ i _ => L.length - (intOf i).toNat)
  case atStart => exact ⟨0, Nat.zero_le _, rfl, OwnMv.nil _ _ _, Below.refl _ _⟩
  case round =>
    obtain ⟨n, hn, rfl, hown, hb⟩ := hrel
    have HB : Hid _ := hb
    have HOW : Hid (OwnMv wr w.heap.size 122 _ (moTo L n)) := hown
    have hbs := hb.size
    have hml := HML.out n hn
    clear hb hown
    by_cases hlt : n < L.length
    · obtain ⟨b, off, rfl, hbl, hc⟩ := HOR.out n hlt
      have hc2 := (HB.out.cell (p := ⟨b, off + n, none⟩) hbl).trans hc
      have ha := HSH.out n hlt
      have HS : Hid (moTo L (n + 1) = moTo L n ++ (List.replicate (posn L (nx L (ordTo L n)) + 1 - stA (moTo L n) (thrOf L (nx L (ordTo L n)))) (thrOf L (nx L (ordTo L n)), false) ++ if kd L (nx L (ordTo L n)) then [(thrOf L (nx L (ordTo L n)), true)] else [])) := rfl
      generalize nx L (ordTo L n) = a at *
      generalize moTo L n = mo at *
      have q2 := (hP.kept HB.out).thr a ha
      have ha0 : ¬ ((a : Int) < 0) := by omega
      have ha1 : ¬ ((L.length : Int) ≤ (a : Int)) := by omega
      have hps := posn_small L a
      have hst := stA_le mo (thrOf L a)
      have hsu := stepsUpTo_any L g cap a wr (hP.kept HB.out) hE ha (by omega)
      obtain ⟨pn, hpn⟩ : ∃ pn, posn L a + 1 = pn := ⟨_, rfl⟩
      rw [hpn] at hsu HS hps
      have HSU : Hid _ := hsu
      clear hc hpn hsu
      go_wp2_with fail
      refine Calls.mono HSU.out ?_
      rintro r w1 ⟨rfl, hb1⟩
      have HB1 : Hid (Below w.heap.size w w1) := HB.out.trans (hb1.mono hbs)
      have HO1 : Hid (OwnMv w1 w.heap.size 122 _ mo) := OwnMv.kept HOW.out hb1
      clear hb1
      go_wp2_with fail
      refine (stepsAmong_any mo (thrOf L a) _ _ (OwnMv.rd HO1.out) (by omega)).mono ?_
      rintro r w2 ⟨rfl, hb2⟩
      have HB2 : Hid (Below w.heap.size w w2) := HB1.out.trans (hb2.mono HB1.out.size)
      have HO2 : Hid (OwnMv w2 w.heap.size 122 _ mo) := OwnMv.kept HO1.out hb2
      have hbs2 := HB2.out.size
      clear hb2 HO1 HB1 HOW q2 hc2
      have HPW : Hid _ := hP
      have hkw := fun wq hq => isWrite_any (L[prv L a]?.getD 0) (L[a]?.getD 0) (thrOf L a) (cellOf L a) (if kd L a then 0 else regOf L a) hq wq
      have HKW : Hid _ := hkw
      have hea := getD_lt hE a
      have HKD : Hid (kd L a = bW (L[a]?.getD 0)) := rfl
      rw [HKD.out] at HS
      clear hkw
      generalize hsn : stA mo (thrOf L a) = sn at *
      clear hsn
      go_wp2
      go_loopw [5, 10] (fun v i wq => ∃ m : Nat, sn ≤ m ∧ (m ≤ pn ∨ m = sn) ∧ i = .int .i64 m ∧ OwnMv wq w.heap.size 122 v (mo ++ List.replicate (m - sn) (thrOf L a, false)) ∧ Below w.heap.size w wq) (fun _ i _ => pn - (intOf i).toNat)
      case atStart => exact ⟨sn, Nat.le_refl _, Or.inr rfl, rfl, by rw [Nat.sub_self]; simpa using HO2.out, HB2.out⟩
      case round =>
        obtain ⟨m, hm1, hm2, rfl, hown3, hb3⟩ := hrel
        have HB3 : Hid _ := hb3
        have hbs3 := hb3.size
        have HO3 : Hid (OwnMv wr w.heap.size 122 _ (mo ++ List.replicate (m - sn) (thrOf L a, false))) := hown3
        have hll : (mo ++ List.replicate (m - sn) (thrOf L a, false)).length ≤ 1000 := by rw [List.length_append, List.length_replicate]; omega
        by_cases hmp : m < pn
        · have HR1 : Hid (mo ++ List.replicate (m + 1 - sn) (thrOf L a, false) = mo ++ List.replicate (m - sn) (thrOf L a, false) ++ [(thrOf L a, false)]) := by
            show _ = _
            rw [show m + 1 - sn = (m - sn) + 1 from by omega, rep_snoc, List.append_assoc]
          have hmpI : (m : Int) < (pn : Int) := by omega
          clear hown3 hb3
          generalize thrOf L a = t at *
          go_wp2_with (at_builtin; go_must (refine wpList_pushMv rfl _ _ 88 rfl w.heap.size 122 Tryd.underlying88 Tryd.infoMove _ (mo ++ List.replicate (m - sn) (t, false)) (t, false) (by rfl) (by rfl) HO3.out hll hbs3 ?_); intro v' w7 hown7 hg7; have HO7 : Hid _ := hown7; have HB7 : Hid (Below w.heap.size w w7) := OwnMv.below HO3.out hg7 HB3.out hbs3; clear hown7 hg7)
          go_roundw
          case rel => exact ⟨m + 1, by omega, by omega, by go_num, by rw [HR1.out]; exact HO7.out, HB7.out⟩
          case measure => simp [intOf]; omega
        · have hmpI : ¬ ((m : Int) < (pn : Int)) := by omega
          have hmm : m - sn = pn - sn := by omega
          have hPr := HPW.out.kept HB3.out
          have y0 := hPr.into a ha
          have y1 := hPr.out a ha
          have y2 := hPr.thr a ha
          have y3 := hPr.cel a ha
          have y4 := hPr.reg a ha
          rw [hmm] at HO3 hll
          clear hown3 hb3 hPr
          generalize L[prv L a]?.getD 0 = ea at *
          generalize L[a]?.getD 0 = e at *
          generalize (if kd L a then 0 else regOf L a) = rg at *
          generalize thrOf L a = t at *
          generalize cellOf L a = c at *
          go_wp2_with fail
          refine (HKW.out _ hea).mono ?_
          rintro r w4 ⟨rfl, hb4⟩
          have HB4 : Hid (Below w.heap.size w w4) := HB3.out.trans (hb4.mono hbs3)
          have HO4 : Hid (OwnMv w4 w.heap.size 122 _ (mo ++ List.replicate (pn - sn) (t, false))) := OwnMv.kept HO3.out hb4
          have hbs4 : w.heap.size ≤ w4.heap.size := HB4.out.size
          clear hb4 y0 y1 y2 y3 y4
          cases hk : bW e
          · have HS2 : Hid (moTo L (n + 1) = mo ++ List.replicate (pn - sn) (t, false)) := by show _ = _; rw [HS.out, hk]; simp
            go_wp2
            go_roundw
            case rel => exact ⟨n + 1, by omega, by go_num, by rw [HS2.out]; exact HO4.out, HB4.out⟩
            case measure => simp [intOf]; omega
          · have HS2 : Hid (moTo L (n + 1) = mo ++ List.replicate (pn - sn) (t, false) ++ [(t, true)]) := by show _ = _; rw [HS.out, hk]; simp
            go_wp2_with (at_builtin; go_must (refine wpList_pushMv rfl _ _ 88 rfl w.heap.size 122 Tryd.underlying88 Tryd.infoMove _ (mo ++ List.replicate (pn - sn) (t, false)) (t, true) (by rfl) (by rfl) HO4.out hll hbs4 ?_); intro v' w7 hown7 hg7; have HO7 : Hid _ := hown7; have HB7 : Hid (Below w.heap.size w w7) := OwnMv.below HO4.out hg7 HB4.out hbs4; clear hown7 hg7)
            go_roundw
            case rel => exact ⟨n + 1, by omega, by go_num, by rw [HS2.out]; exact HO7.out, HB7.out⟩
            case measure => simp [intOf]; omega
    · have : n = L.length := by omega
      subst this
      go_wp2
      go_ret
      exact ⟨_, rfl, HOW.out, HB.out⟩

end Go.Proofs.YtokfiflflcfidabDoor

namespace Go.Proofs.YtokfiflflcfidabDoor
open Go.RowKit

/-- an append to a row of another type leaves the machine as it is -/
theorem PInv.off {TM TT TX TI : Nat} {w w' : World} {base : Nat} {L : PLoc} {model n : Nat} {mem : Nat → Nat} {th : Nat → Th} (h : PInv TM TT TX w base L model n mem th) {v v' : Value} (hg : Grew w w' v v')
    (hT : ∀ b, v.ownBlock = some b → Blk w b TI) (h1 : TI ≠ TM) (h2 : TI ≠ TT) (h3 : TI ≠ TX) : PInv TM TT TX w' base L model n mem th := by
  have hne : ∀ b T, Blk w b T → T = TM ∨ T = TT ∨ T = TX → v.ownBlock ≠ some b := by
    intro b T hb hT' e
    have := hT b e
    obtain ⟨c1, e1⟩ := hb
    obtain ⟨c2, e2⟩ := this
    rw [e1] at e2
    simp at e2
    rcases hT' with h | h | h
    · exact h1 (e2.2.symm.trans h)
    · exact h2 (e2.2.symm.trans h)
    · exact h3 (e2.2.symm.trans h)
  have hk : ∀ b T, Blk w b T → T = TM ∨ T = TT ∨ T = TX → w'.heap[b]? = w.heap[b]? := fun b T hb hT' => hg.block hb.lt (hne b T hb hT')
  have hc : ∀ b T o, Blk w b T → T = TM ∨ T = TT ∨ T = TX → w'.cell? ⟨b, o, none⟩ = w.cell? ⟨b, o, none⟩ := fun b T o hb hT' => World.cell?_of_block (hk b T hb hT')
  have hB : ∀ b T, Blk w b T → T = TM ∨ T = TT ∨ T = TX → Blk w' b T := fun b T hb hT' => by
    have := hk b T hb hT'
    obtain ⟨c, e⟩ := hb
    exact ⟨c, this.trans e⟩
  exact {
    types := h.types
    bM := h.bM, bt := h.bt, bb := h.bb
    kM := hB _ _ h.kM (Or.inl rfl), kt := hB _ _ h.kt (Or.inr (Or.inl rfl)), kb := fun k b hk e => hB _ _ (h.kb k b hk e) (Or.inr (Or.inr rfl))
    c0 := (hc _ _ _ h.kM (Or.inl rfl)).trans h.c0, c1 := (hc _ _ _ h.kM (Or.inl rfl)).trans h.c1
    cm := fun c hcc => (hc _ _ _ h.kM (Or.inl rfl)).trans (h.cm c hcc)
    t0 := fun k hk => (hc _ _ _ h.kt (Or.inr (Or.inl rfl))).trans (h.t0 k hk)
    tr := fun k r hk hr => (hc _ _ _ h.kt (Or.inr (Or.inl rfl))).trans (h.tr k r hk hr)
    t2 := fun k hk => (hc _ _ _ h.kt (Or.inr (Or.inl rfl))).trans (h.t2 k hk)
    cb := fun k hk => by
      rcases h.cb k hk with hh | ⟨b, off, cap, e1, e2, e3, e4⟩
      · exact Or.inl hh
      · have hbk := h.kb k b hk (by rw [e1]; rfl)
        exact Or.inr ⟨b, off, cap, e1, e2, fun i hi => ⟨(hc _ _ _ hbk (Or.inr (Or.inr rfl))).trans (e3 i hi).cell, (hc _ _ _ hbk (Or.inr (Or.inr rfl))).trans (e3 i hi).val⟩, fun j hj => by rw [hc _ _ _ hbk (Or.inr (Or.inr rfl))]; exact e4 j hj⟩
    dbb := h.dbb }
theorem Own.blk {w : World} {base T : Nat} {v : Value} {l : List Nat} (h : Own w base T v l) : ∀ b, v.ownBlock = some b → Blk w b T := by
  intro b hb
  rcases h.2 with ⟨rfl, _⟩ | ⟨g, cap, cur, rfl, _, hgg, _⟩
  · simp [Value.ownBlock] at hb
  · simp [Value.ownBlock] at hb
    subst hb
    exact ⟨cur, hgg⟩
theorem Own.pfr {TM TT TX : Nat} {w w' : World} {base T : Nat} {v : Value} {l : List Nat} (h : Own w base T v l) (hf : PFr TM TT TX w w') (h1 : T ≠ TM) (h2 : T ≠ TT) (h3 : T ≠ TX) : Own w' base T v l := by
  refine ⟨h.1, ?_⟩
  rcases h.2 with hn | ⟨g, cap, cur, rfl, hbg, hgg, rest⟩
  · exact .inl hn
  · exact .inr ⟨g, cap, cur, rfl, hbg, (hf g cur T (0, 0) hgg h1 h2 h3).trans hgg, rest⟩
theorem PAt.off {w0 w w' : World} {M : Nat} {model : Nat} {code : List (List RIns)} {s : St} (h : PAt w0 w M model code s) {v v' : Value} {l : List Nat} (hown : Own w w0.heap.size 3 v l) (hg : Grew w w' v v') : PAt w0 w' M model code s := by
  obtain ⟨L, e1, h2, h3, h4⟩ := h
  exact ⟨L, e1, h2.off hg hown.blk (by decide) (by decide) (by decide), hg.below h3 h3.size hown, h4⟩

theorem Own.offBlk {w : World} {base T T' c : Nat} {v : Value} {l : List Nat} (h : Own w base T v l) (hk : Blk w c T') (hne : T ≠ T') : v.ownBlock ≠ some c := fun e => (h.blk c e).ne hk hne rfl
theorem own_snocN {w : World} {base T pk : Nat} {v : Value} {sl : List Nat} (h : w.ownsRow base T 1 v (nums sl ++ [Value.int .i64 (pk : Int)]).length (nums sl ++ [Value.int .i64 (pk : Int)])) : Own w base T v (sl ++ [pk]) := by
  have e1 : nums sl ++ [Value.int .i64 (pk : Int)] = nums (sl ++ [pk]) := by simp [nums]
  rw [e1, nums_length] at h
  exact h

theorem makeMove_any (code : List (List RIns)) (s : St) (k : Nat) (b : Bool) (model M : Nat) (cv : Value) (w0 w : World) (h : PAt w0 w M model code s) (hC : CodesRd w0 cv code) (hS : SndC code) (hm : model = 0 ∨ model = 1) (hmv : (k, b) ∈ mvs code s.th) :
    Calls Tryd.prog 75 #[.pointer (some ⟨M, 0, none⟩), cv, .agg #[.int .i64 k, .bool b]] w fun r w' => r = .returned (.tuple #[]) ∧ PAt w0 w' M model code (moveS code model s (k, b)) ∧ PFr 136 139 147 w w' := by
  obtain ⟨hk, h2⟩ := (mem_mvs code s.th (k, b)).1 hmv
  dsimp only at hk h2
  rcases h2 with ⟨rfl, hc⟩ | ⟨rfl, hb⟩
  · exact makeStep_any code s k model M cv w0 w h hC hS hm hk (canS_pc hc)
  · exact makeDrain_any code s k model M cv w0 w h hC hk (by
      cases hx : (s.th k).buf with
      | nil => rw [hx] at hb; simp at hb
      | cons a l => simp)

theorem pkTo_len (code : List (List RIns)) (ms : List (Nat × Bool)) (n : Nat) : (pkTo code ms n).1.length = n := by
  induction n with
  | zero => rfl
  | succ n ih => rw [pkTo, List.length_append, ih]; rfl
theorem pkI_le (l : List (Nat × Bool)) (m : Nat × Bool) : pkI l m ≤ l.length := by unfold pkI; split <;> omega

set_option maxRecDepth 100000 in
set_option maxHeartbeats 1600000 in
theorem picksOf_any (code : List (List RIns)) (ms : List (Nat × Bool)) (cv mv : Value) (w : World) (hC : CodesRd w cv code) (hS : SndC code) (hM : MvRd w mv ms) (hml : ms.length ≤ 1000) (hok : ∀ n, n < ms.length → ms[n]?.getD (0, false) ∈ mvs code (pkTo code ms n).2.th) :
    Calls Tryd.prog 41 #[cv, mv] w fun r w' => ∃ v, r = .returned v ∧ Own w' w.heap.size 3 v (pkTo code ms ms.length).1 ∧ Below w.heap.size w w' := by
  have HC : Hid _ := hC
  have HOK : Hid _ := hok
  have hl16 := hS.2.1
  obtain ⟨_, cb, co, cc, rfl, hcbl, hcc⟩ := hC
  obtain ⟨ma, mc, rfl, hmr⟩ := hM
  have HMR : Hid _ := hmr
  clear hcc hmr hok
  go_enter Tryd.func41, Tryd.ntmps41
  go_wp2_with fail
  refine (newMachine_any code 1 _ w HC.out hS).mono ?_
  rintro r w1 ⟨M, rfl, hP1⟩
  have HP1 : Hid _ := hP1
  clear hP1
  go_wp2
  go_loopw [6, 14] (fun v i wr => ∃ n : Nat, n ≤ ms.length ∧ i = .int .i64 n ∧ Own wr w.heap.size 3 v (pkTo code ms n).1 ∧ PAt w wr M 1 code (pkTo code ms n).2) (fun _ i _ => ms.length - (intOf i).toNat)
  case atStart => exact ⟨0, Nat.zero_le _, rfl, Own.nil _ _ _, HP1.out⟩
  case round =>
    obtain ⟨n, hn, rfl, hown, hP⟩ := hrel
    have HO : Hid (Own wr w.heap.size 3 _ (pkTo code ms n).1) := hown
    have HP : Hid (PAt w wr M 1 code (pkTo code ms n).2) := hP
    have hbs := hP.below.size
    have hpl := pkTo_len code ms n
    have HPS : Hid (pkTo code ms (n + 1) = ((pkTo code ms n).1 ++ [pkI (mvs code (pkTo code ms n).2.th) (ms[n]?.getD (0, false))], moveS code 1 (pkTo code ms n).2 (ms[n]?.getD (0, false)))) := rfl
    clear hown
    by_cases hlt : n < ms.length
    · obtain ⟨b, off, rfl, hbl, h1, h2⟩ := HMR.out n hlt
      have y1 := (hP.below.cell (p := ⟨b, off + n * 2, none⟩) hbl).trans h1
      have y2 := (hP.below.cell (p := ⟨b, off + n * 2 + 1, none⟩) hbl).trans h2
      have HMV : Hid _ := HOK.out n hlt
      have hbn : ¬ (b = wr.heap.size) := by omega
      clear h1 h2 hP
      generalize ms[n]?.getD (0, false) = m at *
      obtain ⟨mt, md⟩ := m
      dsimp only at y1 y2
      generalize (pkTo code ms n).1 = sl at *
      generalize (pkTo code ms n).2 = s at *
      have hba : Below wr.heap.size wr (wr.alloc (.cells #[.int .i64 mt, .bool md] 122)) := (Below.refl _ _).alloc (Nat.le_refl _) _
      have HPA : Hid _ := PAt.kept HP.out hba
      have HOA : Hid _ := Own.kept HO.out hba
      obtain ⟨L, hLM, hI, hBB, hOO⟩ := HPA.out
      have HMS : Hid _ := pmoves_any code s.mem s.th w.heap.size 1 L _ _ hI (CodesRd.kept HC.out hBB) hl16
      rw [hLM] at HMS
      clear hI hLM hOO
      go_wp2_with fail
      refine Calls.mono HMS.out ?_
      rintro r w2 ⟨v2, rfl, hown2, hb2⟩
      have HRD2 : Hid _ := OwnMv.rd hown2
      have HP2 : Hid (PAt w w2 M 1 code s) := PAt.kept HPA.out hb2
      have HO2 : Hid (Own w2 w.heap.size 3 _ sl) := Own.kept HOA.out hb2
      have z0 : w2.cell? ⟨wr.heap.size, 0, none⟩ = some (.int .i64 mt) := (hb2.cell (p := ⟨wr.heap.size, 0, none⟩) (by simp)).trans (by simp)
      have z1 : w2.cell? ⟨wr.heap.size, 1, none⟩ = some (.bool md) := (hb2.cell (p := ⟨wr.heap.size, 1, none⟩) (by simp)).trans (by simp)
      have hk2 : Blk w2 wr.heap.size 122 := ⟨_, (hb2.block wr.heap.size (by simp)).trans (heap_alloc_new wr _)⟩
      have hw2 : wr.heap.size < w2.heap.size := by have := hb2.size; simp at this; omega
      have hmvl : (mvs code s.th).length ≤ 1000 := by have := mvTo_length code s.th code.length; unfold mvs; omega
      clear hown2 hb2 hba hBB y1 y2
      go_wp2_with fail
      refine (pickFor_any (mvs code s.th) mt md _ _ HRD2.out hmvl).mono ?_
      rintro r w3 ⟨rfl, hb3⟩
      have HP3 : Hid (PAt w w3 M 1 code s) := PAt.kept HP2.out hb3
      have HO3 : Hid (Own w3 w.heap.size 3 _ sl) := Own.kept HO2.out hb3
      have x0 := (hb3.cell (p := ⟨wr.heap.size, 0, none⟩) hw2).trans z0
      have x1 := (hb3.cell (p := ⟨wr.heap.size, 1, none⟩) hw2).trans z1
      have X0 : Hid _ := x0
      have X1 : Hid _ := x1
      have hk3 : Blk w3 wr.heap.size 122 := hk2.kept hb3
      have hs3 : w.heap.size ≤ w3.heap.size := HP3.out.below.size
      have hw3 : wr.heap.size < w3.heap.size := Nat.lt_of_lt_of_le hw2 hb3.size
      have hpk := pkI_le (mvs code s.th) (mt, md)
      generalize pkI (mvs code s.th) (mt, md) = pk at *
      have hsl : (nums sl).length = sl.length := nums_length sl
      have HO3N : Hid (w3.ownsRow w.heap.size 3 1 u6 (nums sl).length (nums sl)) := by rw [hsl]; exact HO3.out
      have hsl2 : (nums sl).length ≤ 1000 := by omega
      have HMK : Hid (∀ w4, PAt w w4 M 1 code s → Calls Tryd.prog 75 #[.pointer (some ⟨M, 0, none⟩), .slice (some ⟨cb, co, none⟩) code.length cc, .agg #[.int .i64 mt, .bool md]] w4 fun r w' => r = .returned (.tuple #[]) ∧ PAt w w' M 1 code (moveS code 1 s (mt, md)) ∧ PFr 136 139 147 w4 w') := fun w4 h4 => makeMove_any code s mt md 1 M _ w w4 h4 HC.out hS (Or.inr rfl) HMV.out
      have HK3 : Hid _ := hk3
      clear hb3 z0 z1 hsl x0 x1 hk2 hk3
      go_wp2_with (first | (at_builtin; go_must (refine wpList_pushG rfl _ _ 25 rfl w.heap.size 3 (.int .i64 0) 8 Tryd.underlying25 Tryd.infoIntH rfl _ (nums sl) (.int .i64 pk) rfl (by rfl) (by rfl) HO3N.out (by omega) (by unfold maxLen; omega) hs3 ?_); intro v4 w4 hown4 hg4; have hoff : u6.ownBlock ≠ some wr.heap.size := Own.offBlk HO3.out HK3.out (by decide); have h40 : w4.cell? ⟨wr.heap.size, 0, none⟩ = some (.int .i64 mt) := (World.cell?_of_block (hg4.block hw3 hoff)).trans X0.out; have h41 : w4.cell? ⟨wr.heap.size, 1, none⟩ = some (.bool md) := (World.cell?_of_block (hg4.block hw3 hoff)).trans X1.out; have HP4 : Hid (PAt w w4 M 1 code s) := PAt.off HP3.out HO3.out hg4; have HO4 : Hid (Own w4 w.heap.size 3 v4 (sl ++ [pk])) := own_snocN hown4; clear hown4 hg4 hoff) | fail)
      refine Calls.mono (HMK.out _ HP4.out) ?_
      rintro r w5 ⟨rfl, hP5, hF5⟩
      have HO5 : Hid (Own w5 w.heap.size 3 _ (sl ++ [pk])) := Own.pfr HO4.out hF5 (by decide) (by decide) (by decide)
      have HP5 : Hid _ := hP5
      clear hP5 hF5 h40 h41
      go_wp2
      go_roundw
      case rel => exact ⟨n + 1, by omega, by go_num, by rw [HPS.out]; exact HO5.out, by rw [HPS.out]; exact HP5.out⟩
      case measure => simp [intOf]; omega
    · have : n = ms.length := by omega
      subst this
      clear hP
      go_wp2
      go_ret
      exact ⟨_, rfl, HO.out, HP.out.below⟩

end Go.Proofs.YtokfiflflcfidabDoor
