import Derived.Test.YtokfiflflcfidabRows
import Derived.Test.YtokfiflflcfidabGivW
import Derived.WalkKit
import Derived.WalkSpells
import Derived.WalkLawsBesides
import Derived.RegionTactic
import Derived.BigRegion
import Derived.Deep.RegionWith
import Derived.Deep.RegionLaw
import Derived.Deep.QuietTactic
import Derived.BigQuiet
import Derived.Maps.AppendAt
namespace Go.Proofs.Ytokfiflflcfidab
open Go.RowKit

/-- an append in a region that draws, and where the list lies then -/
theorem step_append_grew {P : Program} {ops : Array Oper} {o : Oper} {a : Act} {w : World} {K : Act → World → Prop} {Q : Exit → Act → World → Prop} {E : Prop}
    (hg : o.guard = none) (s x : Operand) (t : TypeId) (hop : o.op = Op.call { callee := Callee.builtin Builtin.append, args := #[s, x], argTypes := #[t, t] })
    (base : Nat) (e : TypeId) (i : TypeInfo) (z : Value) (size bytes : Nat) (h1 : P.underlying t = some (.slice e)) (h2 : P.info? e = some i) (h3 : i.zero = some z) (h4 : i.size = size) (h5 : i.bytes = bytes) (h6 : z.cells.size = size) (h7 : 0 < size)
    (v : Value) (n : Nat) (xs : List Value) (hs : a.eval s = v) (hown : w.ownsRow base e size v n xs)
    (ad : Addr) (m c : Nat) (news : List Value) (hx : a.eval x = .slice (some ad) m c) (hn : news.length = m * size) (hc : ∀ j u, news[j]? = some u → w.cell? (ad.add j) = some u) (h1c : ∀ u ∈ news, u.oneCell' = true)
    (b1 : n + m ≤ maxLen) (b2 : (n + m) * bytes ≤ 140737488355328) (hbase : base ≤ w.heap.size)
    (hK : ∀ v' w', w'.ownsRow base e size v' (n + m) (xs ++ news) → Grew w w' v v' → K (a.put o.dst v') w') :
    if Region.wanted o (yielded ops a.tmps) = true then Oper.wp P o a w K Q else E := by
  have hw : Region.wanted o (yielded ops a.tmps) = true := by simp [Region.wanted, hg]
  rw [if_pos hw]
  obtain ⟨v', w', hrun, r1, r2, _, r3⟩ := run_append_own_at (P := P) w base t o.type e i z size bytes h1 h2 h3 h4 h5 h6 h7 v n xs hown ad m c news hn hc h1c b1 b2 hbase
  unfold Oper.wp
  simp [execOp, hop, resolve, invoke, builtin, hs, hx, hrun, Result.andThen]
  refine hK v' w' r1 ⟨r2, fun k hk => ?_⟩
  rcases r3 with h | h
  · exact Or.inl (by rw [← h]; exact hk)
  · rw [h] at hk
    simp only [Option.some.injEq] at hk
    exact Or.inr (by omega)

def oneQ (code : List (List Q4)) : List (List Q4) := code.map fun l => l.take 1
/-- slices of one instruction each -/
def XRow (w : World) (xs : List Value) (code : List (List Q4)) : Prop := ∀ i, i < xs.length → ∃ b o c, xs[i]? = some (.slice (some ⟨b, o, none⟩) 1 c) ∧ b < w.heap.size ∧ At4 w b o ((code[i]?.getD [])[0]?.getD q0)
theorem row_len {w : World} {base T n : Nat} {v : Value} {xs : List Value} (h : w.ownsRow base T 1 v n xs) : ∃ a c, v = .slice a n c := by
  rcases h.2 with ⟨rfl, hn⟩ | ⟨g, cap, cur, rfl, _⟩
  · exact ⟨none, 0, by rw [hn]⟩
  · exact ⟨_, cap, rfl⟩
theorem xrow_rd {w w' : World} {base T n : Nat} {v : Value} {xs : List Value} {code : List (List Q4)} (h : w'.ownsRow base T 1 v n xs) (hx : XRow w xs code) (hb : Below w.heap.size w w') (hn : n = code.length) (hne : ∀ k, k < code.length → 0 < (code[k]?.getD []).length) : Rd44 0 w'.heap.size w' v (oneQ code) := by
  have hxl : xs.length = n := by have := h.1; omega
  have hol : (oneQ code).length = code.length := by simp [oneQ]
  obtain ⟨a, c, rfl⟩ := row_len h
  refine ⟨a, c, by rw [hol, hn], fun k hk => ?_⟩
  rw [hol] at hk
  obtain ⟨b, o, cc, e1, e2, e3⟩ := hx k (by omega)
  rcases id h.2 with ⟨_, h0⟩ | ⟨g, cap, cur, hv, hbg, hgg, _⟩
  · omega
  · injection hv with q1 q2 q3
    subst q1
    have hc := h.cells (g := g) rfl k _ e1
    have hadd : (⟨g, 0, none⟩ : Addr).add k = ⟨g, 0 + k, none⟩ := by unfold Addr.add; split <;> simp_all
    rw [hadd] at hc
    refine ⟨g, 0, _, rfl, Nat.zero_le _, (Array.getElem?_eq_some_iff.1 hgg).1, hc, ?_⟩
    have hrow : (oneQ code)[k]?.getD [] = [(code[k]?.getD [])[0]?.getD q0] := by
      have h0 := hne k hk
      simp only [oneQ, List.getElem?_map, List.getElem?_eq_getElem hk, Option.map_some, Option.getD_some] at h0 ⊢
      match hq : code[k], h0 with
      | x :: l, _ => simp
    rw [hrow]
    refine ⟨some ⟨b, o, none⟩, cc, rfl, fun i hi => ?_⟩
    have hi0 : i = 0 := by simpa using hi
    subst hi0
    have hbs := hb.size
    refine ⟨b, o, rfl, Nat.zero_le _, by omega, ?_⟩
    have e4 := At4.span e3 (Span.of_below (lo := 0) hb (Nat.le_refl _)) (Nat.zero_le _) e2
    simpa using e4

set_option maxRecDepth 100000 in
set_option maxHeartbeats 3200000 in
theorem alone_any (nv : ByteArray) (cv wv : Value) (code : List (List Q4)) (want : List Q4) (hi : Nat) (w : World) (hC : Rd44 0 hi w cv code) (hW : Rd4 0 hi w wv want) (hhi : hi ≤ w.heap.size) (hl : code.length ≤ 16) (hne : ∀ k, k < code.length → 0 < (code[k]?.getD []).length)
    (hcap : ∀ b off cap, cv = .slice (some ⟨b, off, none⟩) code.length cap → ∀ k, k < code.length → ∀ a n c, w.cell? ⟨b, off + k, none⟩ = some (.slice a n c) → n ≤ c) :
    Calls Try.prog 12 #[.agg #[.string nv, cv, wv]] w fun r w' => ∃ cv', r = .returned (.agg #[.string nv, cv', .slice none 0 0]) ∧ Rd44 0 w'.heap.size w' cv' (oneQ code) ∧ Below w.heap.size w w' := by
  obtain ⟨ca, cc, rfl, hC⟩ := hC
  obtain ⟨wa, wc, rfl, hW⟩ := hW
  have HC : Hid _ := hC
  have HNE : Hid _ := hne
  have HCAP : Hid _ := hcap
  obtain ⟨cn, hcn⟩ : ∃ n, code.length = n := ⟨_, rfl⟩
  have HCN : Hid _ := hcn
  rw [hcn] at HC HNE HCAP hl ⊢
  obtain ⟨wn, hwn⟩ : ∃ n, want.length = n := ⟨_, rfl⟩
  rw [hwn]
  clear hC hW hne hcap hcn hwn
  obtain ⟨i0, hi0, hz0, hz1, hz2⟩ := info_parts Try.infoRInss
  go_enter Try.func12, Try.ntmps12
  go_wp2
  go_loopw [4] (fun i wr => ∃ (k : Nat) (ua : Option Addr) (un : Nat) (xs : List Value), k ≤ cn ∧ i = .int .i64 k ∧ GInv 25 25 w wr nv (.slice ca cn cc) (.slice wa wn wc) (.slice ua k un) (.slice none 0 0) ∧ wr.ownsRow (w.heap.size + 3) 45 1 (.slice ua k un) k xs ∧ XRow w xs code) (fun i _ => cn - (intOf i).toNat)
  case atStart => exact ⟨0, none, 0, [], Nat.zero_le _, rfl, GInv.init _ _ _ _ _ _, World.ownsRow_nil _ _ _ _, fun i hi => absurd hi (by simp)⟩
  case round =>
    obtain ⟨k, ua, un, xs, hk, rfl, hI, hown, hx⟩ := hrel
    have ht1 := hI.t1
    have hu1 := hI.u1
    have hsz := hI.sz
    have hfr := hI.free 1
    have HI : Hid _ := hI
    have HO : Hid (wr.ownsRow (w.heap.size + 3) 45 1 (.slice ua k un) k xs) := hown
    have HX : Hid (XRow w xs code) := hx
    have hB0 : w.heap.size < wr.heap.size := by omega
    have hB2 : w.heap.size + 1 + 1 < wr.heap.size := by omega
    clear hown hx
    by_cases hlt : k < cn
    · obtain ⟨cb, co, vk, rfl, _, hch, hcell, hrow⟩ := HC.out k hlt
      have hcb : cb < w.heap.size := by omega
      obtain ⟨ra, rc, rfl, hrow⟩ := hrow
      have hr0 := HNE.out k hlt
      obtain ⟨rb, ro, rfl, _, hrhi, hat⟩ := hrow 0 hr0
      have hrc : (code[k]?.getD []).length ≤ rc := HCAP.out cb co cc rfl k hlt _ _ _ hcell
      have hck := (hI.below.cell (p := ⟨cb, co + k, none⟩) hcb).trans hcell
      have hcbr : cb < wr.heap.size := by omega
      have HAT : Hid (At4 w rb ro ((code[k]?.getD [])[0]?.getD q0)) := by
        show At4 _ _ _ _
        simpa using hat
      have hrb : rb < w.heap.size := by omega
      have h1rc : (1 : Int) ≤ (rc : Int) := by omega
      obtain ⟨rn, hrn⟩ : ∃ n, (code[k]?.getD []).length = n := ⟨_, rfl⟩
      rw [hrn] at hck hr0 hrc
      have HXN : Hid (XRow w (xs ++ [.slice (some ⟨rb, ro, none⟩) 1 rc]) code) := fun i hi => by
        have hxl : xs.length = k := by have := HO.out.1; omega
        by_cases hik : i < xs.length
        · rw [List.getElem?_append_left hik]; exact HX.out i hik
        · have hik2 : i = k := by simp at hi; omega
          subst hik2
          rw [List.getElem?_append_right (by omega), hxl]
          exact ⟨rb, ro, rc, by simp, hrb, HAT.out⟩
      clear hrow hcell hat hI hrn
      go_wp2
      go_region_law (refine step_append_grew rfl (.tmp 16) (.tmp 23) 22 rfl (w.heap.size + 3) 45 i0 _ 1 24 Try.underlying22 hi0 hz0 hz1 hz2 rfl (by decide) _ _ _ (by simp [Act.eval]) (World.ownsRow.alloc (World.ownsRow.drew HO.out) _) ⟨wr.heap.size, 0, none⟩ 1 1 [.slice (some ⟨rb, ro, none⟩) 1 rc] (by simp [Act.eval]) rfl (by exact one_new wr.drew 45 (.slice (some ⟨rb, ro, none⟩) 1 rc)) (fun u hu => by simp at hu; subst hu; rfl) (by unfold maxLen; omega) (by omega) (by simp; omega) ?_; intro v4 w4 hown4 hg4; have hg5 : Grew wr w4 _ v4 := Grew.trans (Grew.of_below _ ((below_drewN (Below.refl wr.heap.size wr) 1).alloc (Nat.le_refl _) _)) hg4; obtain ⟨a4, c4, hv4⟩ := row_len hown4; subst hv4; have hI4 := HI.out.grew hg5 (fun k hk => (HO.out.lt k hk).1); have s0 := hI4.u1; have s1 := hI4.free 1; have HI4 : Hid _ := hI4; have HO4 : Hid (w4.ownsRow (w.heap.size + 3) 45 1 (.slice a4 (k + 1) c4) (k + 1) (xs ++ [.slice (some ⟨rb, ro, none⟩) 1 rc])) := hown4; clear hown4 hg4 hg5 hI4)
      all_goals go_wp2
      all_goals go_roundw
      all_goals first | exact ⟨k + 1, a4, c4, _, by omega, by go_num, HI4.out.set1 _, ownsRow_setCell_below HO4.out (by dsimp only; omega) _, HXN.out⟩ | (simp [intOf]; omega)
    · have hke : k = cn := by omega
      subst hke
      obtain ⟨r0, r1, r2⟩ := hI.r
      have u0 := hI.u0
      have u2 := hI.u2
      have f0 := hI.freeR 0
      have f1 := hI.freeR 1
      have f2 := hI.freeR 2
      obtain ⟨hF1, hF2⟩ := hI.fin (.string nv) (.slice ua k un) (.slice none 0 0)
      have HF2 : Hid _ := hF2
      have HRD : Hid _ := xrow_rd (w := w) (code := code) (ownsRow_setCell_below (ownsRow_setCell_below (ownsRow_setCell_below HO.out (a := ⟨w.heap.size + 1, 0, none⟩) (by dsimp only; omega) (.string nv)) (a := ⟨w.heap.size + 1, 1, none⟩) (by dsimp only; omega) (.slice ua k un)) (a := ⟨w.heap.size + 1, 2, none⟩) (by dsimp only; omega) (.slice none 0 0)) HX.out HF2.out HCN.out.symm (fun j hj => HNE.out j (by rw [HCN.out] at hj; exact hj))
      have hB1 : w.heap.size + 1 < wr.heap.size := by omega
      clear hF1 hF2 hI
      go_wp2
      refine bodyPost_ret (v := .agg #[.string nv, .slice ua k un, .slice none 0 0]) (by simp [results, Try.results12, go_sem, r0, r1, r2]) rfl ⟨_, rfl, HRD.out, HF2.out⟩

end Go.Proofs.Ytokfiflflcfidab
