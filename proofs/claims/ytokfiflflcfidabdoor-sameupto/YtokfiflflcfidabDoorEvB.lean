import Derived.Test.YtokfiflflcfidabDoorRows
import Derived.Test.YtokfiflflcfidabDoorPlain
import Derived.Test.YtokfiflflcfidabDoorParse
import Derived.Test.YtokfiflflcfidabDoorMem
import Derived.Test.YtokfiflflcfidabDoorEvMem
import Derived.Test.YtokfiflflcfidabDoorPreds
import Derived.Test.YtokfiflflcfidabDoorRefA
import Derived.Test.YtokfiflflcfidabDoorParseW
import Derived.Test.YtokfiflflcfidabDoorEvW
import Derived.WalkKit
import Derived.WalkSpells
import Derived.WalkLawsBesides
import Derived.Deep.QuietTactic
import Derived.BigQuiet
namespace Go.Proofs.YtokfiflflcfidabDoor
open Go.RowKit

theorem Tryd.infoEvent : (Tryd.prog.info? 73).map (fun i => (i.zero, i.size, i.bytes)) = some (some (.agg #[.bool false, .int .i64 0, .int .i64 0, .int .i64 0, .int .i64 0, .bool false]), 6, 48) := by kernel_rfl

set_option maxRecDepth 100000 in
set_option maxHeartbeats 2000000 in
theorem events_any (base : List Nat) (b off cap : Nat) (w : World) (hA : Arr w b off base) (hE : ∀ x ∈ base, x < 14) (hl : 0 < base.length) (hl2 : base.length ≤ 64) (hT : TabR w) (hC : 0 < base.countP lC) :
    Calls Tryd.prog 31 #[.slice (some ⟨b, off, none⟩) base.length cap] w fun r w' => ∃ v, r = .returned v ∧ OwnE w' w.heap.size 73 v (eventsOf base) ∧ Below w.heap.size w w' := by
  obtain ⟨i0, hi, hz0, hz1, hz2⟩ := info_parts Tryd.infoEvent
  go_enter Tryd.func31, Tryd.ntmps31
  go_wp2_with fail
  refine (behindOuter_any base b off cap _ hA hE hl (by omega)).mono ?_
  rintro r w2 ⟨v1, rfl, hown, hb1⟩
  have hEl : ∀ x ∈ turn base (outTo base base.length % base.length), x < 14 := by
    rw [turn_eq base _ (Nat.le_of_lt (Nat.mod_lt _ hl))]
    intro x hx
    rcases List.mem_append.1 hx with h | h
    · exact hE x (List.mem_of_mem_drop h)
    · exact hE x (List.mem_of_mem_take h)
  have hll : (turn base (outTo base base.length % base.length)).length = base.length := turn_length _ _
  have hCl : (turn base (outTo base base.length % base.length)).countP lC = base.countP lC := by
    rw [turn_eq base _ (Nat.le_of_lt (Nat.mod_lt _ hl)), List.countP_append, Nat.add_comm, ← List.countP_append, List.take_append_drop]
  have HEV : Hid (eventsOf base = eventsL (turn base (outTo base base.length % base.length))) := rfl
  rw [← hCl] at hC
  rw [← hll] at hl hl2
  clear hll hCl
  generalize turn base (outTo base base.length % base.length) = l at *
  obtain ⟨g1, c1, hv1, hg1, hG1⟩ := hown.shape hl
  subst hv1
  clear hown
  have hT2 := hT.kept hb1
  have hCle : l.countP lC ≤ l.length := List.countP_le_length
  go_wp2_with fail
  refine (count_any l g1 0 c1 _ hG1 hEl (by omega)).mono ?_
  rintro r w3 ⟨rfl, rfl⟩
  go_wp2
  go_loopw [6, 7, 8, 9] (fun v t m i wr => ∃ n : Nat, n ≤ l.length ∧ i = .int .i64 n ∧ t = .int .i64 ((l.take n).countP lT : Nat) ∧ m = .int .i64 ((l.take n).countP lC : Nat) ∧ OwnE wr w3.heap.size 73 v (evsTo l (l.countP lC) n) ∧ Below w3.heap.size w3 wr) (fun _ _ _ i _ => l.length - (intOf i).toNat)
  case atStart => exact ⟨0, Nat.zero_le _, rfl, rfl, rfl, OwnE.nil _ _ _, Below.refl _ _⟩
  case round =>
    obtain ⟨n, hn, rfl, rfl, rfl, hown, hb2⟩ := hrel
    have h1 := countP_take_le lT l n
    have h2 := countP_take_le lC l n
    by_cases hlt : n < l.length
    · have hc := (hG1.kept hb2).at0 hlt
      have he := getD_lt hEl n
      have hst := ((hT2.kept hb2).starts _ he)
      have HT : Hid _ := countP_take_succ lT l n hlt
      have HC : Hid _ := countP_take_succ lC l n hlt
      have HE : Hid (evsTo l (l.countP lC) (n + 1) = evsTo l (l.countP lC) n ++ [⟨bW (l[n]?.getD 0), (l.take n).countP lT, (l.take n).countP lC % l.countP lC, l[n]?.getD 0, 0, false⟩]) := evsTo_succ l _ n
      have hln := evsTo_length l (l.countP lC) n
      have hlnle : (evsTo l (l.countP lC) n).length ≤ 64 := by omega
      clear hln
      obtain ⟨e, hge⟩ : ∃ e, e = l[n]?.getD 0 := ⟨_, rfl⟩
      rw [← hge] at hc he hst HT HC HE
      have HGE : Hid (l[n]?.getD 0 = e) := hge.symm
      clear hge
      generalize (l.take n).countP lT = t at *
      generalize (l.take n).countP lC = c at *
      generalize l.countP lC = C at *
      obtain ⟨q, hq⟩ : ∃ q, q = c % C := ⟨_, rfl⟩
      have hqi : (c : Int).tmod (C : Int) = (q : Int) := by rw [hq, Int.tmod_eq_emod_of_nonneg (by omega)]; simp
      rw [← hq] at HE
      clear hq
      generalize bW e = be at *
      have hei : (e : Int) < 14 := by omega
      have hCne : ¬ (C = 0) := by omega
      have hbs := hb2.size
      have key : ∀ v' w', w'.ownsRow w3.heap.size 73 6 v' ((evsTo l C n).length + 1) ((evsTo l C n).flatMap evCells ++ evCells ⟨be, t, q, e, 0, false⟩) → OwnE w' w3.heap.size 73 v' (evsTo l C (n + 1)) := by
        intro v' w' h
        rw [HE.out]
        unfold OwnE
        rw [List.flatMap_append, List.length_append]
        exact h
      have HK : Hid _ := key
      clear key
      --A
      go_wp2
      go_region_law (refine step_append_own rfl (.tmp 28) (.tmp 44) 34 rfl w3.heap.size 73 i0 _ 6 48 Tryd.underlying34 hi hz0 hz1 hz2 rfl (by decide) _ _ _ rfl (by exact (hown.alloc _).drew) ⟨wr.heap.size, 0, none⟩ 1 1 (evCells ⟨be, t, q, e, 0, false⟩) rfl rfl (by exact ev_new wr 73 ⟨be, t, q, e, 0, false⟩) (ev_one _) (by unfold maxLen; omega) (by omega) (by simp; omega) ?_; intro v' w4 hown3 hgr)
      all_goals
        have hown4 := HK.out _ _ hown3
        have hb4 : Below w3.heap.size w3 w4 := ((hb2.alloc hbs _).drew).grown hgr (by simp; omega) (fun k hk => (hown.lt k hk).1)
        have hc4 := (hG1.kept hb4).at0 hlt
        have HO4 : Hid _ := hown4
        have HB4 : Hid _ := hb4
        clear hown3 hown4 hgr hb4 hc hown hb2 hst
        rw [HGE.out] at hc4
        cases hT1 : lT e <;> cases hC1 : lC e
        all_goals
          go_wp2_with (first | (go_at_call 58; refine (outer_any e he _).mono ?_; rintro r w1 ⟨rfl, rfl⟩) | (go_at_call 42; refine (moving_any e he _).mono ?_; rintro r w1 ⟨rfl, rfl⟩))
          go_roundw
          case rel => exact ⟨n + 1, by omega, by go_num, by rw [HT.out]; simp [hT1], by rw [HC.out]; simp [hC1], HO4.out, HB4.out⟩
          case measure => simp [intOf]; omega
      --B
    · have hnl : n = l.length := by omega
      subst hnl
      have HEL : Hid (eventsL l = cellTo (evsTo l (l.countP lC) l.length) (l.countP lC)) := rfl
      have hsta : ∀ i, i < l.length → afOf (evsTo l (l.countP lC) l.length) i = l[i]?.getD 0 := by
        intro i hi
        simp [afOf, evsTo, hi, evS]
      have haf : ∀ i, afOf (evsTo l (l.countP lC) l.length) i < 14 := by
        intro i
        by_cases hi : i < l.length
        · rw [hsta i hi]; exact getD_lt hEl i
        · have : (evsTo l (l.countP lC) l.length)[i]? = none := by rw [List.getElem?_eq_none_iff, evsTo_length]; omega
          simp [afOf, this, ev0]
      have hmv : ∃ i, i < l.length ∧ lC (afOf (evsTo l (l.countP lC) l.length) i) = true := by
        obtain ⟨x, hx, hcx⟩ := List.countP_pos_iff.1 hC
        obtain ⟨i, hi, rfl⟩ := List.getElem_of_mem hx
        exact ⟨i, hi, by rw [hsta i hi]; simpa [hi] using hcx⟩
      have hlenE := evsTo_length l (l.countP lC) l.length
      obtain ⟨g, gc, hgv, hgb, hG⟩ := hown.shape (by rw [hlenE]; exact hl)
      rw [hlenE] at hgv
      subst hgv
      have HAF : Hid _ := haf
      have HMV : Hid _ := hmv
      have HLE : Hid _ := hlenE
      clear hsta haf hmv hlenE hG
      generalize evsTo l (l.countP lC) l.length = ev at *
      generalize (l.take l.length).countP lT = t9 at *
      generalize (l.take l.length).countP lC = m9 at *
      generalize l.countP lC = C at *
      go_wp2
      go_loopw [10] (fun c wr => ∃ k : Nat, k ≤ C ∧ c = .int .i64 k ∧ OwnE wr w3.heap.size 73 (.slice (some ⟨g, 0, none⟩) l.length gc) (cellTo ev k) ∧ Below w3.heap.size w3 wr) (fun c _ => C - (intOf c).toNat)
      case atStart => exact ⟨0, Nat.zero_le _, rfl, hown, hb2⟩
      case round =>
        clear hown hb2
        obtain ⟨k, hk, rfl, hown, hb⟩ := hrel
        by_cases hkC : k < C
        · have hS := Stat.cell ev k
          have hln : (cellTo ev k).length = l.length := by rw [hS.1, HLE.out]
          have HC : Hid (cellTo ev (k + 1) = (valTo (cellTo ev k) (chain (cellTo ev k) k) (chain (cellTo ev k) k).length).1) := rfl
          have hA1 := (hown.arr (by rw [hln]; exact hl)).1
          have hch := chain_any (cellTo ev k) g gc k wr hA1 (by rw [hln]; exact hl) (by rw [hln]; omega) (fun i => by have := HAF.out i; unfold afOf at *; rw [(hS.2 i).2.2.2]; exact this)
            (by obtain ⟨i, h1, h2⟩ := HMV.out; exact ⟨i, by rw [hln]; exact h1, by unfold afOf at *; rw [(hS.2 i).2.2.2]; exact h2⟩)
          have hmem := mem_chTo (cellTo ev k) k (cellTo ev k).length (by rw [hln]; exact hl)
          have hcl := chTo_length (cellTo ev k) k (cellTo ev k).length
          have HMEM : Hid (∀ x ∈ chain (cellTo ev k) k, x < l.length) := by rw [← hln]; exact hmem
          have hcl2 : (chain (cellTo ev k) k).length ≤ 10000 := by
            unfold chain
            rw [hln] at hcl ⊢
            have : l.length * (l.length + 1) ≤ 64 * 65 := Nat.mul_le_mul (by omega) (by omega)
            omega
          rw [hln] at hch
          have HLN : Hid _ := hln
          clear hS hA1 hmem hcl hln
          generalize chain (cellTo ev k) k = ch at *
          generalize cellTo ev k = evk at *
          go_wp2_with fail
          refine hch.mono ?_
          rintro r w4 ⟨v4, rfl, hown4, hb4⟩
          have hownE4 := hown.kept hb4
          have hbb := hb.trans (hb4.mono hb.size)
          have hgl : g < wr.heap.size := (hown.arr (by rw [HLN.out]; exact hl)).1.1
          clear hch hown hb
          rcases hown4.split with ⟨hv4, hnil⟩ | ⟨g4, c4, hv4, hg4, hG4⟩
          · subst hv4
            subst hnil
            clear hown4
            go_wp2
            go_loopw [13] (fun c wr => c = .int .i64 0 ∧ OwnE wr w3.heap.size 73 (.slice (some ⟨g, 0, none⟩) l.length gc) evk ∧ Below w3.heap.size w3 wr) (fun _ _ => 0)
            case atStart => exact ⟨rfl, hownE4, hbb⟩
            case round =>
              clear hownE4 hbb
              obtain ⟨rfl, hown5, hb5⟩ := hrel
              go_wp2
              go_roundw
              case rel => exact ⟨k + 1, by omega, by go_num, by rw [HC.out]; exact hown5, hb5⟩
              case measure => simp [intOf]; omega
          · subst hv4
            clear hown4
            have hne : g ≠ g4 := by omega
            go_wp2
            go_loopw [12, 13] (fun v c wr => ∃ m : Nat, m ≤ ch.length ∧ c = .int .i64 m ∧ v = .int .i64 ((valTo evk ch m).2 : Nat) ∧ OwnE wr w3.heap.size 73 (.slice (some ⟨g, 0, none⟩) l.length gc) (valTo evk ch m).1 ∧ Arr wr g4 0 ch ∧ Below w3.heap.size w3 wr) (fun _ c _ => ch.length - (intOf c).toNat)
            case atStart => exact ⟨0, Nat.zero_le _, rfl, rfl, hownE4, hG4, hbb⟩
            case round =>
              clear hownE4 hG4 hbb hb4
              obtain ⟨m, hm, rfl, rfl, hown5, hG5, hb5⟩ := hrel
              by_cases hmlt : m < ch.length
              · have hc5 := hG5.at0 hmlt
                have hx : ch[m]?.getD 0 < l.length := by
                  have := HMEM.out (ch[m]'hmlt) (List.getElem_mem _)
                  simpa [hmlt] using this
                have hvle := valTo_le evk ch m
                have HP : Hid (valTo evk ch (m + 1) = putV (ch.length == 1) (valTo evk ch m) (ch[m]?.getD 0)) := valTo_succ evk ch m hmlt
                have hsl : (valTo evk ch m).1.length = l.length := by rw [(Stat.val evk ch m).1, HLN.out]
                generalize ch[m]?.getD 0 = i at *
                have E := (hown5.arr (by rw [hsl]; exact hl)).1.at (i := i) (by rw [hsl]; exact hx)
                have hEw := E.wr
                have hE4 := E.va
                have hE5 := E.lo
                have hF4 := World.ownsRow.frozenAt (n := l.length) (by unfold OwnE at hown5; rw [hsl] at hown5; exact hown5) (i * 6 + 4)
                have hF5 := World.ownsRow.frozenAt (n := l.length) (by unfold OwnE at hown5; rw [hsl] at hown5; exact hown5) (i * 6 + 5)
                have hput := fun v o => hown5.put hsl (i := i) (by rw [hsl]; exact hx) v o
                have HPUT : Hid _ := hput
                have HQ : Hid (putV (ch.length == 1) (valTo evk ch m) i = ((valTo evk ch m).1.set i { (valTo evk ch m).1[i]?.getD ev0 with va := (valTo evk ch m).2 + (if ((valTo evk ch m).1[i]?.getD ev0).wr then 1 else 0), lo := !((valTo evk ch m).1[i]?.getD ev0).wr && (ch.length == 1) }, (valTo evk ch m).2 + (if ((valTo evk ch m).1[i]?.getD ev0).wr then 1 else 0))) := rfl
                have hxi : (i : Int) < (l.length : Int) := by omega
                have hlt5 : wr.heap.size ≤ wr.heap.size := Nat.le_refl _
                clear E hput hown5 hlt5
                generalize (valTo evk ch m).1[i]?.getD ev0 = ei at *
                generalize (valTo evk ch m).1 = es at *
                generalize (valTo evk ch m).2 = vv at *
                have hG6 := fun v o => (hG5.setOther (a := ⟨g, i * 6 + 4, none⟩) hne v).setOther (a := ⟨g, i * 6 + 5, none⟩) hne o
                have hb6 := fun v o => (hb5.setCell (p := ⟨g, i * 6 + 4, none⟩) hgb v).setCell (p := ⟨g, i * 6 + 5, none⟩) hgb o
                have HG6 : Hid _ := hG6
                have HB6 : Hid _ := hb6
                clear hG5 hb5 hG6 hb6
                cases hw : ei.wr
                · rw [hw] at hEw
                  by_cases h1 : ch.length = 1
                  · have h1i : ((ch.length : Int) == 1) = true := by rw [beq_iff_eq]; omega
                    have HV : Hid (valTo evk ch (m + 1) = (es.set i { ei with va := vv, lo := true }, vv)) := by show _ = _; rw [HP.out, HQ.out]; simp [hw, h1]
                    clear h1
                    go_wp2
                    go_roundw
                    case rel => exact ⟨m + 1, by omega, by go_num, by rw [HV.out], by rw [HV.out]; exact HPUT.out vv true, HG6.out _ _, HB6.out _ _⟩
                    case measure => simp [intOf]; omega
                  · have h1i : ((ch.length : Int) == 1) = false := by rw [beq_eq_false_iff_ne]; omega
                    have HV : Hid (valTo evk ch (m + 1) = (es.set i { ei with va := vv, lo := false }, vv)) := by
                      have h1n : (ch.length == 1) = false := by rw [beq_eq_false_iff_ne]; exact h1
                      show _ = _; rw [HP.out, HQ.out]; simp [hw, h1n]
                    clear h1
                    go_wp2
                    go_roundw
                    case rel => exact ⟨m + 1, by omega, by go_num, by rw [HV.out], by rw [HV.out]; exact HPUT.out vv false, HG6.out _ _, HB6.out _ _⟩
                    case measure => simp [intOf]; omega
                · rw [hw] at hEw
                  have HV : Hid (valTo evk ch (m + 1) = (es.set i { ei with va := vv + 1, lo := false }, vv + 1)) := by show _ = _; rw [HP.out, HQ.out]; simp [hw]
                  have HW : Hid (((vv + 1 : Nat) : Int) = (vv : Int) + 1) := by show _ = _; omega
                  go_wp2
                  go_roundw
                  case rel => exact ⟨m + 1, by omega, by go_num, by rw [HV.out]; go_num, by rw [HV.out, ← HW.out]; exact HPUT.out (vv + 1) false, HG6.out _ _, HB6.out _ _⟩
                  case measure => simp [intOf]; omega
              · have hme : m = ch.length := by omega
                subst hme
                go_wp2
                go_roundw
                case rel => exact ⟨k + 1, by omega, by go_num, by rw [HC.out]; exact hown5, hb5⟩
                case measure => simp [intOf]; omega
        · have hkE : k = C := by omega
          subst hkE
          go_wp2
          go_ret
          exact ⟨_, rfl, by rw [HEV.out, HEL.out]; exact hown.rebase hb1.size, hb1.trans (hb.mono hb1.size)⟩

end Go.Proofs.YtokfiflflcfidabDoor
