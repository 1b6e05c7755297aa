import Derived.Test.YtokfiflflcfidabDoorRows
import Derived.Test.YtokfiflflcfidabDoorHapY
import Derived.WalkKit
import Derived.WalkSpells
import Derived.WalkLawsBesides
namespace Go.Proofs.YtokfiflflcfidabDoor
open Go.RowKit

set_option maxRecDepth 100000 in
set_option maxHeartbeats 800000 in
theorem happensFirst_any (L : List Nat) (g cap f s : Nat) (w : World) (hP : PRd w g L) (hE : ∀ x ∈ L, x < 14) (hf : f < L.length) (hs : s < L.length) (hl2 : L.length ≤ 64) :
    Calls Tryd.prog 95 #[.slice (some ⟨g, 0, none⟩) L.length cap, .int .i64 f, .int .i64 s] w fun v w' => v = .returned (.bool (hap L f s)) ∧ Below w.heap.size w w' := by
  have HH : Hid (hap L f s = (byCode L f s || byVal L f s)) := rfl
  go_enter Tryd.func95, Tryd.ntmps95
  go_wp2_with fail
  refine (firstByCode_any L g cap f s _ hP hE hf hs hl2).mono ?_
  rintro r w1 ⟨rfl, hb1⟩
  cases hc : byCode L f s
  · have HR : Hid (hap L f s = byVal L f s) := by show _ = _; rw [HH.out, hc]; rfl
    go_wp2_with fail
    refine (firstByValue_any L g cap f s _ (hP.kept hb1) hE hf hs hl2).mono ?_
    rintro r w2 ⟨rfl, hb2⟩
    have HB : Hid (Below w.heap.size w w2) := hb1.trans (hb2.mono hb1.size)
    go_wp2
    go_ret
    exact ⟨by rw [HR.out]; rfl, HB.out⟩
  · have HR : Hid (hap L f s = true) := by show _ = _; rw [HH.out, hc]; rfl
    go_wp2
    go_ret
    exact ⟨by rw [HR.out]; rfl, hb1⟩

theorem mwt_yes {L o : List Nat} {a f : Nat} (hf : f < L.length) (h1 : isIn o f = false) (h2 : hap L f a = true) : mwt L o a = true := by
  unfold mwt
  rw [List.any_eq_true]
  exact ⟨f, List.mem_range.2 hf, by rw [h1, h2]; rfl⟩
theorem mwt_no {L o : List Nat} {a : Nat} (h : ∀ f, f < L.length → (!isIn o f && hap L f a) = false) : mwt L o a = false := by
  unfold mwt
  rw [List.any_eq_false]
  intro f hf
  rw [h f (List.mem_range.1 hf)]
  simp

set_option maxRecDepth 100000 in
set_option maxHeartbeats 800000 in
theorem mustWait_any (L : List Nat) (g cap : Nat) (o : List Nat) (ov : Value) (s : Nat) (w : World) (hP : PRd w g L) (hE : ∀ x ∈ L, x < 14) (hO : NumRd w ov o) (hol : o.length ≤ 1000) (hs : s < L.length) (hl2 : L.length ≤ 64) :
    Calls Tryd.prog 82 #[.slice (some ⟨g, 0, none⟩) L.length cap, ov, .int .i64 s] w fun v w' => v = .returned (.bool (mwt L o s)) ∧ Below w.heap.size w w' := by
  have HO : Hid _ := hO
  obtain ⟨oa, oc, rfl, _⟩ := hO
  go_enter Tryd.func82, Tryd.ntmps82
  go_wp2
  go_loopw [10] (fun i wr => ∃ n : Nat, n ≤ L.length ∧ i = .int .i64 n ∧ (∀ f, f < n → (!isIn o f && hap L f s) = false) ∧ Below w.heap.size w wr) (fun i _ => L.length - (intOf i).toNat)
  case atStart => exact ⟨0, Nat.zero_le _, rfl, fun f hf => by omega, Below.refl _ _⟩
  case round =>
    obtain ⟨n, hn, rfl, hno, hb⟩ := hrel
    have HB : Hid _ := hb
    have HN : Hid _ := hno
    clear hno hb
    by_cases hlt : n < L.length
    · have HNX : Hid ((!isIn o n && hap L n s) = false → ∀ f, f < n + 1 → (!isIn o f && hap L f s) = false) := fun h f hf => by
        by_cases hk : f = n
        · rw [hk]; exact h
        · exact HN.out f (by omega)
      cases hin : isIn o n
      · go_wp2_with fail
        refine (isAmong_any o n _ _ (NumRd.kept HO.out HB.out) hol).mono ?_
        rintro r w1 ⟨rfl, rfl⟩
        rw [hin]
        go_wp2_with fail
        refine (happensFirst_any L g cap n s _ (hP.kept HB.out) hE hlt hs hl2).mono ?_
        rintro r w2 ⟨rfl, hb2⟩
        have HB2 : Hid (Below w.heap.size w w2) := HB.out.trans (hb2.mono HB.out.size)
        clear hb2
        cases hh : hap L n s
        · have HX : Hid _ := HNX.out (by rw [hin, hh]; rfl)
          clear hin hh
          go_wp2
          go_roundw
          case rel => exact ⟨n + 1, by omega, by go_num, HX.out, HB2.out⟩
          case measure => simp [intOf]; omega
        · have HR : Hid (mwt L o s = true) := mwt_yes hlt hin hh
          clear hin hh
          go_wp2
          go_ret
          exact ⟨by rw [HR.out]; rfl, HB2.out⟩
      · go_wp2_with fail
        refine (isAmong_any o n _ _ (NumRd.kept HO.out HB.out) hol).mono ?_
        rintro r w1 ⟨rfl, rfl⟩
        rw [hin]
        have HX : Hid _ := HNX.out (by rw [hin]; rfl)
        clear hin
        go_wp2
        go_roundw
        case rel => exact ⟨n + 1, by omega, by go_num, HX.out, HB.out⟩
        case measure => simp [intOf]; omega
    · have : n = L.length := by omega
      subst this
      have HR : Hid (mwt L o s = false) := mwt_no HN.out
      go_wp2
      go_ret
      exact ⟨by rw [HR.out]; rfl, HB.out⟩

def nxI (L o : List Nat) : Int := if nx L o < L.length then (nx L o : Int) else -1
theorem nx_here {L o : List Nat} {n : Nat} (hn : n < L.length) (hno : ∀ f, f < n → (isIn o f || mwt L o f) = true) (h : (isIn o n || mwt L o n) = false) : nx L o = n := firstNo_eq _ _ n (by omega) hno (Or.inr h)
theorem nx_none {L o : List Nat} (hno : ∀ f, f < L.length → (isIn o f || mwt L o f) = true) : nx L o = L.length := firstNo_eq _ _ _ (Nat.le_refl _) hno (Or.inl rfl)

set_option maxRecDepth 100000 in
set_option maxHeartbeats 800000 in
theorem nextHappening_any (L : List Nat) (g cap : Nat) (o : List Nat) (ov : Value) (w : World) (hP : PRd w g L) (hE : ∀ x ∈ L, x < 14) (hO : NumRd w ov o) (hol : o.length ≤ 1000) (hl2 : L.length ≤ 64) :
    Calls Tryd.prog 56 #[.slice (some ⟨g, 0, none⟩) L.length cap, ov] w fun v w' => v = .returned (.int .i64 (nxI L o)) ∧ Below w.heap.size w w' := by
  have HO : Hid _ := hO
  obtain ⟨oa, oc, rfl, _⟩ := hO
  go_enter Tryd.func56, Tryd.ntmps56
  go_wp2
  go_loopw [8] (fun i wr => ∃ n : Nat, n ≤ L.length ∧ i = .int .i64 n ∧ (∀ f, f < n → (isIn o f || mwt L o f) = true) ∧ Below w.heap.size w wr) (fun i _ => L.length - (intOf i).toNat)
  case atStart => exact ⟨0, Nat.zero_le _, rfl, fun f hf => by omega, Below.refl _ _⟩
  case round =>
    obtain ⟨n, hn, rfl, hno, hb⟩ := hrel
    have HB : Hid _ := hb
    have HN : Hid _ := hno
    clear hno hb
    by_cases hlt : n < L.length
    · have HNX : Hid ((isIn o n || mwt L o n) = true → ∀ f, f < n + 1 → (isIn o f || mwt L o f) = true) := fun h f hf => by
        by_cases hk : f = n
        · rw [hk]; exact h
        · exact HN.out f (by omega)
      cases hin : isIn o n
      · go_wp2_with fail
        refine (isAmong_any o n _ _ (NumRd.kept HO.out HB.out) hol).mono ?_
        rintro r w1 ⟨rfl, rfl⟩
        rw [hin]
        go_wp2_with fail
        refine (mustWait_any L g cap o _ n _ (hP.kept HB.out) hE (NumRd.kept HO.out HB.out) hol hlt hl2).mono ?_
        rintro r w2 ⟨rfl, hb2⟩
        have HB2 : Hid (Below w.heap.size w w2) := HB.out.trans (hb2.mono HB.out.size)
        clear hb2
        cases hh : mwt L o n
        · have HR : Hid (nxI L o = (n : Int)) := by
            show _ = _
            have := nx_here hlt HN.out (by rw [hin, hh]; rfl)
            unfold nxI
            rw [this, if_pos hlt]
          clear hin hh
          go_wp2
          go_ret
          exact ⟨by rw [HR.out]; rfl, HB2.out⟩
        · have HX : Hid _ := HNX.out (by rw [hh]; simp)
          clear hin hh
          go_wp2
          go_roundw
          case rel => exact ⟨n + 1, by omega, by go_num, HX.out, HB2.out⟩
          case measure => simp [intOf]; omega
      · go_wp2_with fail
        refine (isAmong_any o n _ _ (NumRd.kept HO.out HB.out) hol).mono ?_
        rintro r w1 ⟨rfl, rfl⟩
        rw [hin]
        have HX : Hid _ := HNX.out (by rw [hin]; rfl)
        clear hin
        go_wp2
        go_roundw
        case rel => exact ⟨n + 1, by omega, by go_num, HX.out, HB.out⟩
        case measure => simp [intOf]; omega
    · have : n = L.length := by omega
      subst this
      have HR : Hid (nxI L o = -1) := by
        show _ = _
        unfold nxI
        rw [nx_none HN.out, if_neg (by omega)]
      go_wp2
      go_ret
      exact ⟨by rw [HR.out]; rfl, HB.out⟩

theorem shown_no {L : List Nat} {n : Nat} (hn : n < L.length) (h : ¬ nx L (ordTo L n) < L.length) : shown L = false := by
  rw [Bool.eq_false_iff]
  exact fun hs => h (shown_at hs hn)
theorem shown_yes {L : List Nat} (h : ∀ m, m < L.length → nx L (ordTo L m) < L.length) : shown L = true := by
  unfold shown
  rw [List.all_eq_true]
  exact fun n hn => decide_eq_true (h n (List.mem_range.1 hn))

theorem Tryd.infoIntH : (Tryd.prog.info? 3).map (fun i => (i.zero, i.size, i.bytes)) = some (some (.int .i64 0), 1, 8) := by kernel_rfl

set_option maxRecDepth 100000 in
set_option maxHeartbeats 800000 in
theorem happenings_any (L : List Nat) (g cap : Nat) (w : World) (hP : PRd w g L) (hE : ∀ x ∈ L, x < 14) (hl2 : L.length ≤ 64) :
    Calls Tryd.prog 27 #[.slice (some ⟨g, 0, none⟩) L.length cap] w fun r w' => ∃ v, r = .returned (.tuple #[v, .bool (shown L)]) ∧ (shown L = true → Own w' w.heap.size 3 v (ordTo L L.length)) ∧ (shown L = false → v = .slice none 0 0) ∧ Below w.heap.size w w' := by
  go_enter Tryd.func27, Tryd.ntmps27
  go_wp2
  go_loopw [4, 8] (fun v i wr => ∃ n : Nat, n ≤ L.length ∧ i = .int .i64 n ∧ (∀ m, m < n → nx L (ordTo L m) < L.length) ∧ Own wr w.heap.size 3 v (ordTo L n) ∧ Below w.heap.size w wr) (fun _ i _ => L.length - (intOf i).toNat)
  case atStart => exact ⟨0, Nat.zero_le _, rfl, fun f hf => by omega, Own.nil _ _ _, Below.refl _ _⟩
  case round =>
    obtain ⟨n, hn, rfl, hno, hown, hb⟩ := hrel
    have HB : Hid _ := hb
    have HN : Hid _ := hno
    have hol := ordTo_length L n
    have hol2 : (ordTo L n).length ≤ 1000 := by omega
    have HO : Hid (Own wr w.heap.size 3 _ (ordTo L n)) := hown
    have hbs := hb.size
    clear hno hb hol hown
    by_cases hlt : n < L.length
    · have HS : Hid (ordTo L (n + 1) = ordTo L n ++ [nx L (ordTo L n)]) := rfl
      go_wp2_with fail
      refine (nextHappening_any L g cap (ordTo L n) _ _ (hP.kept HB.out) hE HO.out.nums hol2 hl2).mono ?_
      rintro r w1 ⟨rfl, hb1⟩
      have HB1 : Hid (Below w.heap.size w w1) := HB.out.trans (hb1.mono hbs)
      have HO1 : Hid _ := HO.out.kept hb1
      have hbs1 : w.heap.size ≤ w1.heap.size := HB1.out.size
      clear hb1 HO HB
      by_cases hx : nx L (ordTo L n) < L.length
      · have HI : Hid (nxI L (ordTo L n) = (nx L (ordTo L n) : Int)) := by show _ = _; unfold nxI; rw [if_pos hx]
        have HNX : Hid (∀ m, m < n + 1 → nx L (ordTo L m) < L.length) := fun m hm => by
          by_cases hk : m = n
          · rw [hk]; exact hx
          · exact HN.out m (by omega)
        rw [HI.out]
        clear hx HI
        generalize nx L (ordTo L n) = x at *
        have hx0 : ¬ ((x : Int) < 0) := by omega
        go_wp2_with (at_builtin; go_must (refine wpList_pushN rfl _ _ 25 rfl w.heap.size w.heap.size w 3 Tryd.underlying25 Tryd.infoIntH _ (ordTo L n) x (by rfl) (by rfl) HO1.out (by omega) HB1.out (Nat.le_refl _) hbs1 ?_); intro v' w2 hown2 hb2 _; have HO2 : Hid _ := hown2; have HB2 : Hid _ := hb2; clear hown2 hb2)
        go_roundw
        case rel => exact ⟨n + 1, by omega, by go_num, HNX.out, by rw [HS.out]; exact HO2.out, HB2.out⟩
        case measure => simp [intOf]; omega
      · have HI : Hid (nxI L (ordTo L n) = -1) := by show _ = _; unfold nxI; rw [if_neg hx]
        have HR : Hid (shown L = false) := shown_no hlt hx
        rw [HI.out]
        clear hx HI
        go_wp2
        go_ret2
        exact ⟨_, by rw [HR.out]; rfl, fun h => (by rw [HR.out] at h; cases h), fun _ => rfl, HB1.out⟩
    · have : n = L.length := by omega
      subst this
      have HR : Hid (shown L = true) := shown_yes HN.out
      go_wp2
      go_ret2
      exact ⟨_, by rw [HR.out]; rfl, fun _ => HO.out, fun h => (by rw [HR.out] at h; cases h), HB.out⟩

end Go.Proofs.YtokfiflflcfidabDoor
