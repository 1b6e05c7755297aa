import Derived.Test.YtokfiflflcfidabDoorRows
import Derived.Test.YtokfiflflcfidabDoorPlain
import Derived.Test.YtokfiflflcfidabDoorParse
import Derived.Test.YtokfiflflcfidabDoorMem
import Derived.Test.YtokfiflflcfidabDoorEvMem
import Derived.Test.YtokfiflflcfidabDoorPreds
import Derived.Test.YtokfiflflcfidabDoorRefA
import Derived.Test.YtokfiflflcfidabDoorParseW
import Derived.Test.YtokfiflflcfidabDoorRefB
import Derived.Test.YtokfiflflcfidabDoorEvW
import Derived.Test.YtokfiflflcfidabDoorEvB
import Derived.WalkKit
import Derived.WalkSpells
import Derived.WalkLawsBesides
import Derived.Deep.QuietTactic
import Derived.BigQuiet
namespace Go.Proofs.YtokfiflflcfidabDoor
open Go.RowKit

/-- the first cell with more than two writes, or the number of cells -/
def wrP (base : List Nat) (c : Nat) : Bool := !decide (2 < (eventsOf base).countP (isW c))
def rchk (l : List Nat) : Nat × Nat :=
  if unj l < l.length then (3, unj l) else if l.countP lT < 2 then (4, 0) else if l.countP lC < 2 then (5, 0) else if firstNo (wrP (leastOf l)) (l.countP lC) < l.countP lC then (6, 0) else (0, 0)
/-- Read's error and place -/
def rd (s : List UInt8) : Nat × Nat := if 63 < s.length then (1, 0) else if isE s then rchk (edgesOf s) else (2, rdP s)

theorem rd_long {s : List UInt8} (h : 63 < s.length) : rd s = (1, 0) := by unfold rd; rw [if_pos h]
theorem rd_not {s : List UInt8} (h : ¬ 63 < s.length) (h2 : isE s = false) : rd s = (2, rdP s) := by unfold rd; rw [if_neg h, h2]; rfl
theorem rd_is {s : List UInt8} (h : ¬ 63 < s.length) (h2 : isE s = true) : rd s = rchk (edgesOf s) := by unfold rd; rw [if_neg h, h2]; rfl
theorem rchk_unj {l : List Nat} (h : unj l < l.length) : rchk l = (3, unj l) := by unfold rchk; rw [if_pos h]
theorem rchk_thr {l : List Nat} (h : ¬ unj l < l.length) (h2 : l.countP lT < 2) : rchk l = (4, 0) := by unfold rchk; rw [if_neg h, if_pos h2]
theorem rchk_cel {l : List Nat} (h : ¬ unj l < l.length) (h2 : ¬ l.countP lT < 2) (h3 : l.countP lC < 2) : rchk l = (5, 0) := by unfold rchk; rw [if_neg h, if_neg h2, if_pos h3]
theorem rchk_wri {l : List Nat} (h : ¬ unj l < l.length) (h2 : ¬ l.countP lT < 2) (h3 : ¬ l.countP lC < 2) (h4 : firstNo (wrP (leastOf l)) (l.countP lC) < l.countP lC) : rchk l = (6, 0) := by unfold rchk; rw [if_neg h, if_neg h2, if_neg h3, if_pos h4]
theorem rchk_ok {l : List Nat} (h : ¬ unj l < l.length) (h2 : ¬ l.countP lT < 2) (h3 : ¬ l.countP lC < 2) (h4 : ¬ firstNo (wrP (leastOf l)) (l.countP lC) < l.countP lC) : rchk l = (0, 0) := by unfold rchk; rw [if_neg h, if_neg h2, if_neg h3, if_neg h4]

theorem edgesOf_lt {s : List UInt8} (h : isE s = true) : ∀ x ∈ edgesOf s, x < 14 := by
  intro x hx
  have hlen : fb s = s.length ∧ s.length % 4 = 3 := by unfold isE at h; simpa using h
  simp only [edgesOf, edgesTo, List.mem_map, List.mem_range] at hx
  obtain ⟨j, hj, rfl⟩ := hx
  have h1 := firstNo_yes (okAt s) s.length (4 * j + 2) (by have := hlen.1; unfold fb at this; omega)
  rw [okAt_letter (by omega)] at h1
  have h2 : ebw (seg s (4 * j + 2 - (4 * j + 2) % 4) (4 * j + 2 + 1)) < 14 := by simpa using h1
  rw [show 4 * j + 2 - (4 * j + 2) % 4 = 4 * j from by omega] at h2
  exact h2
theorem edgesOf_length {s : List UInt8} (h : isE s = true) : 0 < (edgesOf s).length ∧ 4 * (edgesOf s).length = s.length + 1 := by
  have hlen : fb s = s.length ∧ s.length % 4 = 3 := by unfold isE at h; simpa using h
  unfold edgesOf
  rw [edgesTo_length]
  omega

theorem mem_leastTo (l : List Nat) (n : Nat) : ∀ x ∈ leastTo l n, x ∈ l := by
  have ht : ∀ k x, x ∈ turn l k → x ∈ l := by
    intro k x hx
    by_cases hl : 0 < l.length
    · simp only [turn, turnTo, List.mem_map] at hx
      obtain ⟨i, _, rfl⟩ := hx
      have := Nat.mod_lt (k + i) hl
      simp [this]
    · have : l.length = 0 := by omega
      simp [turn, turnTo, this] at hx
  induction n with
  | zero => intro x hx; exact hx
  | succ n ih =>
    intro x hx
    simp only [leastTo] at hx
    split at hx
    · exact ht _ x hx
    · exact ih x hx
theorem countP_turn (p : Nat → Bool) (l : List Nat) (k : Nat) (h : k ≤ l.length) : (turn l k).countP p = l.countP p := by
  rw [turn_eq l k h, List.countP_append, Nat.add_comm, ← List.countP_append, List.take_append_drop]
theorem countP_leastTo (p : Nat → Bool) (l : List Nat) (n : Nat) (h : n < l.length) : (leastTo l n).countP p = l.countP p := by
  induction n with
  | zero => rfl
  | succ n ih =>
    simp only [leastTo]
    split
    · exact countP_turn p l _ (by omega)
    · exact ih (by omega)

set_option maxRecDepth 100000 in
set_option maxHeartbeats 2000000 in
theorem read_any (s : ByteArray) (hs : s.size ≤ 9223372036854775807) (w : World) (hT : TabR w) :
    Calls Tryd.prog 10 #[.string s] w fun r w' => ∃ v, r = .returned (.tuple #[v, .int .i64 ((rd s.data.toList).1 : Nat), .int .i64 ((rd s.data.toList).2 : Nat)]) ∧
      ((rd s.data.toList).1 = 0 → IsRow w' v (edgesOf s.data.toList).length (leastOf (edgesOf s.data.toList))) ∧ ((rd s.data.toList).1 ≠ 0 → v = .slice none 0 0) ∧ Below w.heap.size w w' := by
  have hsd := size_data s
  by_cases hlong : 63 < s.size
  · have HR : Hid _ := rd_long (s := s.data.toList) (by omega)
    go_enter Tryd.func10, Tryd.ntmps10
    go_wp2
    go_ret3
    refine ⟨.slice none 0 0, by rw [HR.out]; rfl, fun h => ?_, fun _ => rfl, Below.refl _ _⟩
    rw [HR.out] at h; cases h
  · go_enter Tryd.func10, Tryd.ntmps10
    go_wp2_with fail
    refine (edges_any s (by omega) _ hT).mono ?_
    rintro r w1 ⟨v, p, ok, rfl, hans, hb1⟩
    rcases hans with ⟨hE, rfl, rfl, hown⟩ | ⟨hE, rfl, hp, rfl⟩
    · have HR : Hid _ := rd_is (s := s.data.toList) (by omega) hE
      have hlen := edgesOf_length hE
      have hl := hlen.1
      have hl2 : (edgesOf s.data.toList).length ≤ 16 := by omega
      have hEl := edgesOf_lt hE
      clear hlen hE
      obtain ⟨l, hL⟩ : ∃ l, edgesOf s.data.toList = l := ⟨_, rfl⟩
      rw [hL] at HR hl hl2 hEl hown
      have HL : Hid _ := hL
      clear hL
      obtain ⟨g1, c1, hv1, hg1, hG1⟩ := hown.shape hl
      subst hv1
      clear hown
      have hT1 := hT.kept hb1
      go_wp2
      go_loopw [8] (fun i wr => ∃ n : Nat, n ≤ l.length ∧ i = .int .i64 n ∧ (∀ j, j < n → jn l j = true) ∧ Below w1.heap.size w1 wr) (fun i _ => l.length - (intOf i).toNat)
      case atStart => exact ⟨0, Nat.zero_le _, rfl, fun j hj => absurd hj (by omega), Below.refl _ _⟩
      case round =>
        obtain ⟨n, hn, rfl, hall, hb2⟩ := hrel
        have HA : Hid _ := hall
        clear hall
        have hbb := hb1.trans (hb2.mono hb1.size)
        by_cases hlt : n < l.length
        · obtain ⟨m, hm⟩ : ∃ m, m = (n + l.length - 1) % l.length := ⟨_, rfl⟩
          have hml : m < l.length := by rw [hm]; exact Nat.mod_lt _ hl
          have hmi : ((n : Int) + (l.length : Int) - 1) % (l.length : Int) = (m : Int) := by
            rw [hm, Int.natCast_emod, Int.natCast_sub (by omega)]; simp
          have HJ : Hid (jn l n = (bW (l[n]?.getD 0) == eW (l[m]?.getD 0))) := by rw [hm]; rfl
          have hc := (hG1.kept hb2).at0 hlt
          have hc2 := (hG1.kept hb2).at0 hml
          have he := getD_lt hEl n
          have hd := getD_lt hEl m
          have hst := (hT1.kept hb2).starts _ he
          have hen := (hT1.kept hb2).ends _ hd
          clear hm
          generalize l[n]?.getD 0 = e at *
          generalize l[m]?.getD 0 = d at *
          have hei : (e : Int) < 14 := by omega
          have hdi : (d : Int) < 14 := by omega
          have hl0 : ¬ ((l.length : Int) = 0) := by omega
          generalize bW e = be at *
          generalize eW d = ed at *
          cases hj : (be == ed)
          · go_wp2
            go_quiet (fail)
            go_wp2
            go_ret3
            have hu : unj l = n := firstNo_eq _ _ _ hn HA.out (Or.inr (by rw [HJ.out, hj]))
            have hr := HR.out.trans (rchk_unj (l := l) (by rw [hu]; exact hlt))
            refine ⟨.slice none 0 0, by rw [hr, hu]; rfl, fun h => ?_, fun _ => rfl, below_drewN hbb _⟩
            rw [hr] at h; cases h
          · go_wp2
            go_quiet (fail)
            go_wp2
            go_roundw
            case rel =>
              refine ⟨n + 1, by omega, by go_num, fun j hj2 => ?_, below_drewN hb2 _⟩
              by_cases hjn : j = n
              · rw [hjn, HJ.out, hj]
              · exact HA.out j (by omega)
            case measure => simp [intOf]; omega
        · have hnl : n = l.length := by omega
          have HU : Hid (¬ unj l < l.length) := by
            have : unj l = l.length := firstNo_eq _ _ _ (Nat.le_refl _) (by rw [← hnl]; exact HA.out) (Or.inl rfl)
            show ¬ _
            omega
          have hG2 := hG1.kept hb2
          have hT2 := hT1.kept hb2
          clear hnl
          go_wp2_with fail
          refine (count_any l g1 0 c1 _ hG2 hEl (by omega)).mono ?_
          rintro r w2 ⟨rfl, rfl⟩
          have hct : l.countP lT ≤ l.length := List.countP_le_length
          have hcc : l.countP lC ≤ l.length := List.countP_le_length
          by_cases ht : l.countP lT < 2
          · have hr := HR.out.trans (rchk_thr HU.out ht)
            have HR2 : Hid _ := hr
            clear hr
            go_wp2
            go_ret3
            refine ⟨.slice none 0 0, by rw [HR2.out]; rfl, fun h => ?_, fun _ => rfl, hbb⟩
            rw [HR2.out] at h; cases h
          · by_cases hc : l.countP lC < 2
            · have hr := HR.out.trans (rchk_cel HU.out ht hc)
              have HR2 : Hid _ := hr
              clear hr
              go_wp2
              go_ret3
              refine ⟨.slice none 0 0, by rw [HR2.out]; rfl, fun h => ?_, fun _ => rfl, hbb⟩
              rw [HR2.out] at h; cases h
            · go_wp2_with fail
              refine (least_any l g1 0 c1 _ hG2 hl (by omega)).mono ?_
              rintro r w3 ⟨v3, rfl, hrow, hb3⟩
              obtain ⟨g3, o3, c3, rfl, hl3, hG3⟩ := hrow
              have hE3 : ∀ x ∈ leastOf l, x < 14 := fun x hx => hEl x (mem_leastTo l _ x hx)
              have hC3 : (leastOf l).countP lC = l.countP lC := countP_leastTo lC l _ (by omega)
              have hev := events_any (leastOf l) g3 o3 c3 w3 hG3 hE3 (by rw [hl3]; exact hl) (by rw [hl3]; omega) (hT2.kept hb3) (by rw [hC3]; omega)
              rw [hl3] at hev
              have hevl : (eventsOf (leastOf l)).length = l.length := by
                unfold eventsOf eventsL
                rw [(Stat.cell _ _).1, evsTo_length, turn_length, hl3]
              go_wp2_with fail
              refine hev.mono ?_
              rintro r w4 ⟨v4, rfl, hown4, hb4⟩
              obtain ⟨g4, c4, hv4, hg4, hG4⟩ := hown4.shape (by rw [hevl]; exact hl)
              rw [hevl] at hv4
              subst hv4
              have hb5 : Below w.heap.size w w4 := hbb.trans ((hb3.mono hbb.size).trans (hb4.mono (Nat.le_trans hbb.size hb3.size)))
              have hG5 := hG3.kept hb4
              have HRo : Hid _ := fun h4 => HR.out.trans (rchk_ok (l := l) HU.out ht hc h4)
              have HRw : Hid _ := fun h4 => HR.out.trans (rchk_wri (l := l) HU.out ht hc h4)
              clear hev hown4 hE3 hC3
              have HEV : Hid _ := hevl
              clear hevl
              go_wp2
              go_loop [13] (fun c => ∃ k : Nat, k ≤ l.countP lC ∧ c = .int .i64 k ∧ ∀ j, j < k → wrP (leastOf l) j = true) (fun c => l.countP lC - (intOf c).toNat)
              case atStart => exact ⟨0, Nat.zero_le _, rfl, fun j hj => absurd hj (by omega)⟩
              case round =>
                obtain ⟨k, hk, rfl, hall⟩ := hrel
                have HK : Hid _ := hall
                clear hall
                by_cases hkC : k < l.countP lC
                · have hw := writes_any (eventsOf (leastOf l)) g4 c4 k _ hG4 (by rw [HEV.out]; omega)
                  rw [HEV.out] at hw
                  have HP : Hid (wrP (leastOf l) k = !decide (2 < (eventsOf (leastOf l)).countP (isW k))) := rfl
                  have hwl : (eventsOf (leastOf l)).countP (isW k) ≤ 16 := Nat.le_trans List.countP_le_length (by rw [HEV.out]; exact hl2)
                  generalize (eventsOf (leastOf l)).countP (isW k) = cw at *
                  by_cases hcw : 2 < cw
                  · go_wp2_with fail
                    refine hw.mono ?_
                    rintro r w5 ⟨rfl, rfl⟩
                    go_wp2
                    go_ret3
                    have hf : firstNo (wrP (leastOf l)) (l.countP lC) = k := firstNo_eq _ _ _ hk HK.out (Or.inr (by rw [HP.out, decide_eq_true hcw]; rfl))
                    have hr := HRw.out (by rw [hf]; exact hkC)
                    refine ⟨.slice none 0 0, by rw [hr]; rfl, fun h => ?_, fun _ => rfl, hb5⟩
                    rw [hr] at h; cases h
                  · go_wp2_with fail
                    refine hw.mono ?_
                    rintro r w5 ⟨rfl, rfl⟩
                    go_wp2
                    go_round
                    case rel =>
                      refine ⟨k + 1, by omega, by go_num, fun j hj => ?_⟩
                      by_cases hjk : j = k
                      · rw [hjk, HP.out, decide_eq_false hcw]; rfl
                      · exact HK.out j (by omega)
                    case measure => simp [intOf]; omega
                · go_wp2
                  go_ret3
                  have hkE : k = l.countP lC := by omega
                  have hf : firstNo (wrP (leastOf l)) (l.countP lC) = l.countP lC := firstNo_eq _ _ _ (Nat.le_refl _) (by rw [← hkE]; exact HK.out) (Or.inl rfl)
                  have hr := HRo.out (by rw [hf]; omega)
                  refine ⟨_, by rw [hr]; rfl, fun _ => by rw [HL.out]; exact ⟨g3, o3, c3, rfl, hl3, hG5⟩, fun h => ?_, hb5⟩
                  rw [hr] at h; exact absurd rfl h
    · have HR : Hid _ := rd_not (s := s.data.toList) (by omega) hE
      subst hp
      go_wp2
      go_ret3
      refine ⟨.slice none 0 0, by rw [HR.out]; rfl, fun h => ?_, fun _ => rfl, hb1⟩
      rw [HR.out] at h; cases h

end Go.Proofs.YtokfiflflcfidabDoor
