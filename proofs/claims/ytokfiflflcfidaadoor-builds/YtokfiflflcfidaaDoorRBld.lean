import Derived.Test.YtokfiflflcfidaaDoorRows
import Derived.Test.YtokfiflflcfidaaDoorMemQ
import Derived.Test.YtokfiflflcfidaaDoorEvW
import Derived.Test.YtokfiflflcfidaaDoorBldR
import Derived.Test.YtokfiflflcfidaaDoorChzW
import Derived.Test.YtokfiflflcfidaaDoorGivW
import Derived.Test.YtokfiflflcfidaaDoorPredsD
import Derived.Maps.AppendAt
import Derived.WalkKit
import Derived.WalkSpells
import Derived.WalkLawsBesides
import Derived.RegionTactic
import Derived.BigRegion
import Derived.Deep.RegionWith
import Derived.Deep.RegionLaw
import Derived.Deep.QuietTactic
import Derived.BigQuiet
namespace Go.Proofs.YtokfiflflcfidaaDoor
open Go.RowKit

/-- an append in a region that draws, and where the list lies then -/
theorem step_append_grew {P : Program} {ops : Array Oper} {o : Oper} {a : Act} {w : World} {K : Act → World → Prop} {Q : Exit → Act → World → Prop} {E : Prop}
    (hg : o.guard = none) (s x : Operand) (t : TypeId) (hop : o.op = Op.call { callee := Callee.builtin Builtin.append, args := #[s, x], argTypes := #[t, t] })
    (base : Nat) (e : TypeId) (i : TypeInfo) (z : Value) (size bytes : Nat) (h1 : P.underlying t = some (.slice e)) (h2 : P.info? e = some i) (h3 : i.zero = some z) (h4 : i.size = size) (h5 : i.bytes = bytes) (h6 : z.cells.size = size) (h7 : 0 < size)
    (v : Value) (n : Nat) (xs : List Value) (hs : a.eval s = v) (hown : w.ownsRow base e size v n xs)
    (ad : Addr) (m c : Nat) (news : List Value) (hx : a.eval x = .slice (some ad) m c) (hn : news.length = m * size) (hc : ∀ j u, news[j]? = some u → w.cell? (ad.add j) = some u) (h1c : ∀ u ∈ news, u.oneCell' = true)
    (b1 : n + m ≤ maxLen) (b2 : (n + m) * bytes ≤ 140737488355328) (hbase : base ≤ w.heap.size)
    (hK : ∀ v' w', w'.ownsRow base e size v' (n + m) (xs ++ news) → Grew w w' v v' → K (a.put o.dst v') w') :
    if Region.wanted o (yielded ops a.tmps) = true then Oper.wp P o a w K Q else E := by
  have hw : Region.wanted o (yielded ops a.tmps) = true := by simp [Region.wanted, hg]
  rw [if_pos hw]
  obtain ⟨v', w', hrun, r1, r2, _, r3⟩ := run_append_own_at (P := P) w base t o.type e i z size bytes h1 h2 h3 h4 h5 h6 h7 v n xs hown ad m c news hn hc h1c b1 b2 hbase
  unfold Oper.wp
  simp [execOp, hop, resolve, invoke, builtin, hs, hx, hrun, Result.andThen]
  refine hK v' w' r1 ⟨r2, fun k hk => ?_⟩
  rcases r3 with h | h
  · exact Or.inl (by rw [← h]; exact hk)
  · rw [h] at hk
    simp only [Option.some.injEq] at hk
    exact Or.inr (by omega)

/-- the document's code of thread t: of the first k events -/
def rcTo (l : List Ev) (t : Nat) : Nat → List Q4
  | 0 => []
  | k + 1 => rcTo l t k ++ if (l[k]?.getD ev0).th = t then [if (l[k]?.getD ev0).wr then ⟨1, 0, (l[k]?.getD ev0).ce, (l[k]?.getD ev0).va⟩ else ⟨2, rgTo l k k, (l[k]?.getD ev0).ce, 0⟩] ++ (if fE (l[k]?.getD ev0).af then [⟨3, 0, 0, 0⟩] else []) else []
theorem rcTo_len (l : List Ev) (t k : Nat) : (rcTo l t k).length ≤ 2 * k := by
  induction k with
  | zero => exact Nat.le_refl _
  | succ k ih =>
    rw [rcTo, List.length_append]
    have h1 : (if fE (l[k]?.getD ev0).af then [(⟨3, 0, 0, 0⟩ : Q4)] else []).length ≤ 1 := by split <;> simp
    by_cases h : (l[k]?.getD ev0).th = t
    · rw [if_pos h, List.length_append, List.length_singleton]; omega
    · rw [if_neg h]; simp; omega

set_option maxRecDepth 100000 in
set_option maxHeartbeats 3200000 in
theorem rcode_any (l : List Ev) (b cap t : Nat) (w : World) (hA : EArr w b l) (hl2 : l.length ≤ 64) (haf : ∀ i, i < l.length → (l[i]?.getD ev0).af < 14) :
    Calls Tryd.prog 42 #[.slice (some ⟨b, 0, none⟩) l.length cap, .int .i64 t] w fun r w' => ∃ v, r = .returned v ∧ Own4 w' w.heap.size 90 v (rcTo l t l.length) ∧ Below w.heap.size w w' := by
  obtain ⟨i0, hi0, hz0, hz1, hz2⟩ := info_parts Tryd.infoRIns
  have HAF : Hid _ := haf
  clear haf
  go_enter Tryd.func42, Tryd.ntmps42
  go_wp2
  go_loopw [5, 6] (fun v i wr => ∃ n : Nat, n ≤ l.length ∧ i = .int .i64 n ∧ Own4 wr w.heap.size 90 v (rcTo l t n) ∧ Below w.heap.size w wr) (fun _ i _ => l.length - (intOf i).toNat)
  case atStart => exact ⟨0, Nat.zero_le _, rfl, Own4.nil _ _ _, Below.refl _ _⟩
  case round =>
    obtain ⟨n, hn, rfl, hown, hb⟩ := hrel
    by_cases hlt : n < l.length
    · have hEr := hA.kept hb
      have E := hEr.at hlt
      have q0 := E.wr
      have q1 := E.th
      have q2 := E.ce
      have q3 := E.af
      have q4 := E.va
      have he := HAF.out n hlt
      have HAFC : Hid _ := (hA.at hlt).af
      have hbl : b < w.heap.size := hA.1
      have hbs := hb.size
      have HB : Hid _ := hb
      have HO : Hid (Own4 wr w.heap.size 90 _ (rcTo l t n)) := hown
      have hrl := rcTo_len l t n
      have HCE : Hid (rcTo l t (n + 1) = rcTo l t n ++ if (l[n]?.getD ev0).th = t then [if (l[n]?.getD ev0).wr then ⟨1, 0, (l[n]?.getD ev0).ce, (l[n]?.getD ev0).va⟩ else ⟨2, rgTo l n n, (l[n]?.getD ev0).ce, 0⟩] ++ (if fE (l[n]?.getD ev0).af then [⟨3, 0, 0, 0⟩] else []) else []) := rfl
      have hregf := fun w' hA' => register_any l b cap n w' hA' hlt hl2
      have HRG : Hid _ := hregf
      have hrgl := rgTo_le l n n
      clear E hb hown hregf
      generalize (l[n]?.getD ev0).wr = wn at *
      generalize (l[n]?.getD ev0).th = th at *
      generalize (l[n]?.getD ev0).ce = c at *
      generalize (l[n]?.getD ev0).af = e at *
      generalize (l[n]?.getD ev0).va = va at *
      generalize rgTo l n n = rg at *
      by_cases hth : th = t
      · have hthI : ((th : Int) != (t : Int)) = false := by rw [hth]; simp
        rw [if_pos hth] at HCE
        clear hth
        cases wn
        · have hEd : EArr wr.drew b l := EArr.kept hEr (below_drewN (Below.refl _ _) 1)
          have HREG : Hid _ := HRG.out wr.drew hEd
          clear hEd
          have HC0 : Hid (fE e = false → rcTo l t (n + 1) = rcTo l t n ++ [⟨2, (rg : Int), (c : Int), 0⟩]) := fun hf => by rw [HCE.out, hf]; simp
          have HC1 : Hid (fE e = true → rcTo l t (n + 1) = (rcTo l t n ++ [⟨2, (rg : Int), (c : Int), 0⟩]) ++ [⟨3, 0, 0, 0⟩]) := fun hf => by rw [HCE.out, hf]; simp
          clear hEr HRG HCE
          go_wp2
          go_region_law (first | (refine step_append_own rfl (.tmp 39) (.tmp 49) 86 rfl w.heap.size 90 i0 _ 4 32 Tryd.underlying86 hi0 hz0 hz1 hz2 rfl (by decide) _ _ _ (by simp [Act.eval]) (World.ownsRow.alloc HO4.out _) ⟨w3.heap.size, 0, none⟩ 1 1 (cells4 ⟨2, (rg : Int), (c : Int), 0⟩) (by simp [Act.eval]) rfl (by exact four_new w3 90 ⟨2, (rg : Int), (c : Int), 0⟩) (cells4_one _) (by unfold maxLen; omega) (by omega) (by simp; omega) ?_; intro v4 w4 hown4 hg4; have HO5 : Hid (Own4 w4 w.heap.size 90 v4 (rcTo l t n ++ [⟨2, (rg : Int), (c : Int), 0⟩])) := Own4.snoc hown4; have HB5 : Hid (Below w.heap.size w w4) := (HB4.out.alloc (by omega) _).grown hg4 (by simp; omega) (fun k hk => (World.ownsRow.lt HO4.out k hk).1); have z3 := (HB5.out.cell (p := ⟨b, n * 6 + 3, none⟩) hbl).trans HAFC.out; have hs5 := HB5.out.size; clear hown4 hg4) | (go_simp; go_wp2_with (go_at_call 43; refine Calls.mono HREG.out ?_; rintro r w3 ⟨rfl, hb3⟩; have x2 : w3.cell? ⟨b, n * 6 + 2, none⟩ = some (.int .i64 c) := (hb3.cell (p := ⟨b, n * 6 + 2, none⟩) (by show b < wr.heap.size; omega)).trans q2; have HO4 : Hid _ := ownsRow_kept (World.ownsRow.drew HO.out) hb3; have HB4 : Hid (Below w.heap.size w w3) := (below_drewN HB.out 1).trans (hb3.mono hbs); have hs3 : w.heap.size ≤ w3.heap.size := HB4.out.size; clear hb3)))
          all_goals clear q0 q1 q2 q3 q4
          all_goals cases hf : fE e
          all_goals go_wp2_with (first | (go_at_call 70; refine (fencedR_any e he _).mono ?_; rintro r w6 ⟨rfl, rfl⟩; rw [hf]) | (at_builtin; refine wpList_push4 rfl _ _ 86 rfl w.heap.size 90 Tryd.underlying86 Tryd.infoRIns _ _ (⟨3, 0, 0, 0⟩ : Q4) (by rfl) (by simp [Act.eval]) HO5.out (by simp; omega) hs5 ?_; intro v7 w7 hown7 hg7; have HO7 : Hid _ := hown7; have HB7 : Hid (Below w.heap.size w w7) := hg7.below HB5.out hs5 HO5.out; clear hown7 hg7))
          all_goals go_roundw
          all_goals first | exact ⟨n + 1, by omega, by go_num, by rw [HC0.out hf]; exact HO5.out, HB5.out⟩ | exact ⟨n + 1, by omega, by go_num, by rw [HC1.out hf]; exact HO7.out, HB7.out⟩ | (simp [intOf]; omega)
        · have HC0 : Hid (fE e = false → rcTo l t (n + 1) = rcTo l t n ++ [⟨1, 0, (c : Int), (va : Int)⟩]) := fun hf => by rw [HCE.out, hf]; simp
          have HC1 : Hid (fE e = true → rcTo l t (n + 1) = (rcTo l t n ++ [⟨1, 0, (c : Int), (va : Int)⟩]) ++ [⟨3, 0, 0, 0⟩]) := fun hf => by rw [HCE.out, hf]; simp
          clear hEr HRG HCE
          go_wp2
          go_region_law (refine step_append_own rfl (.tmp 25) (.tmp 37) 86 rfl w.heap.size 90 i0 _ 4 32 Tryd.underlying86 hi0 hz0 hz1 hz2 rfl (by decide) _ _ _ (by simp [Act.eval]) (World.ownsRow.alloc (World.ownsRow.drew HO.out) _) ⟨wr.heap.size, 0, none⟩ 1 1 (cells4 ⟨1, 0, (c : Int), (va : Int)⟩) (by simp [Act.eval]) rfl (by exact four_new wr.drew 90 ⟨1, 0, (c : Int), (va : Int)⟩) (cells4_one _) (by unfold maxLen; omega) (by omega) (by simp; omega) ?_; intro v4 w4 hown4 hg4; have HO5 : Hid (Own4 w4 w.heap.size 90 v4 (rcTo l t n ++ [⟨1, 0, (c : Int), (va : Int)⟩])) := Own4.snoc hown4; have HB5 : Hid (Below w.heap.size w w4) := ((below_drewN HB.out 1).alloc (by exact hbs) _).grown hg4 (by simp; omega) (fun k hk => (World.ownsRow.lt HO.out k hk).1); have z3 := (HB5.out.cell (p := ⟨b, n * 6 + 3, none⟩) hbl).trans HAFC.out; have hs5 := HB5.out.size; clear hown4 hg4)
          all_goals clear q0 q1 q2 q3 q4
          all_goals cases hf : fE e
          all_goals go_wp2_with (first | (go_at_call 70; refine (fencedR_any e he _).mono ?_; rintro r w6 ⟨rfl, rfl⟩; rw [hf]) | (at_builtin; refine wpList_push4 rfl _ _ 86 rfl w.heap.size 90 Tryd.underlying86 Tryd.infoRIns _ _ (⟨3, 0, 0, 0⟩ : Q4) (by rfl) (by simp [Act.eval]) HO5.out (by simp; omega) hs5 ?_; intro v7 w7 hown7 hg7; have HO7 : Hid _ := hown7; have HB7 : Hid (Below w.heap.size w w7) := hg7.below HB5.out hs5 HO5.out; clear hown7 hg7))
          all_goals go_roundw
          all_goals first | exact ⟨n + 1, by omega, by go_num, by rw [HC0.out hf]; exact HO5.out, HB5.out⟩ | exact ⟨n + 1, by omega, by go_num, by rw [HC1.out hf]; exact HO7.out, HB7.out⟩ | (simp [intOf]; omega)
      · have hthI : ((th : Int) != (t : Int)) = true := by rw [bne_iff_ne]; omega
        have HCT : Hid (rcTo l t (n + 1) = rcTo l t n) := by show _ = _; rw [HCE.out, if_neg hth]; simp
        clear hth HCE
        go_wp2
        go_roundw
        case rel => exact ⟨n + 1, by omega, by go_num, by rw [HCT.out]; exact HO.out, HB.out⟩
        case measure => simp [intOf]; omega
    · go_wp2
      go_ret
      have : n = l.length := by omega
      subst this
      exact ⟨_, rfl, hown, hb⟩

end Go.Proofs.YtokfiflflcfidaaDoor
