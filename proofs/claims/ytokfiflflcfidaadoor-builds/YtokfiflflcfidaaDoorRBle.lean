import Derived.Test.YtokfiflflcfidaaDoorRows
import Derived.Test.YtokfiflflcfidaaDoorRBld
import Derived.Test.YtokfiflflcfidaaDoorEvB
import Derived.Test.YtokfiflflcfidaaDoorText
import Derived.Test.YtokfiflflcfidaaDoorBldT
import Derived.WalkKit
import Derived.WalkSpells
import Derived.WalkLawsBesides
import Derived.RegionTactic
import Derived.BigRegion
import Derived.Deep.RegionWith
import Derived.Deep.RegionLaw
import Derived.Deep.QuietTactic
import Derived.BigQuiet
namespace Go.Proofs.YtokfiflflcfidaaDoor
open Go.RowKit

theorem Own44.push {wr w' : World} {base T : Nat} {v v' : Value} {c : List (List Q4)} {cells : List Value} {l : List Q4} {vl : Value} {B T4 : Nat} (h2 : cells.length = c.length)
    (h3 : ∀ i, i < c.length → ∃ vi, cells[i]? = some vi ∧ vi.oneCell' = true ∧ (∃ a n cap, vi = .slice a n cap) ∧ (∀ g, vi.ownBlock = some g → base ≤ g ∧ g < wr.heap.size ∧ v.ownBlock ≠ some g) ∧ Rd4 base wr.heap.size wr vi (c[i]?.getD []))
    (hl : Own4 wr B T4 vl l) (hB : base ≤ B) (hoff : ∀ k, v.ownBlock = some k → k < B) (k1 : w'.ownsRow base T 1 v' (cells.length + 1) (cells ++ [vl])) (k2 : Grew wr w' v v') : Own44 w' base T v' (c ++ [l]) := by
  have hv1 : vl.oneCell' = true := by
    obtain ⟨a, c, rfl⟩ := hl.len
    rfl
  refine ⟨cells ++ [vl], by rw [List.length_append, List.length_singleton]; exact k1, by simp [h2], fun i hi => ?_⟩
  have rdGrew : ∀ vi li, (∀ g, vi.ownBlock = some g → g < wr.heap.size ∧ v.ownBlock ≠ some g) → Rd4 base wr.heap.size wr vi li → Rd4 base w'.heap.size w' vi li := by
    rintro vi li hne ⟨a, cap, rfl, hh⟩
    refine ⟨a, cap, rfl, fun j hj => ?_⟩
    obtain ⟨b, off, rfl, e2, e3, e4⟩ := hh j hj
    have hb := hne b rfl
    have hblk := k2.block hb.1 hb.2
    refine ⟨b, off, rfl, e2, by have := k2.size; omega, ?_⟩
    exact ⟨(World.cell?_of_block (w := wr) (a := ⟨b, _, none⟩) hblk).trans e4.f0, (World.cell?_of_block (w := wr) (a := ⟨b, _, none⟩) hblk).trans e4.f1, (World.cell?_of_block (w := wr) (a := ⟨b, _, none⟩) hblk).trans e4.f2, (World.cell?_of_block (w := wr) (a := ⟨b, _, none⟩) hblk).trans e4.f3⟩
  by_cases hil : i < c.length
  · obtain ⟨vi, e1, e2, e3, e4, e5⟩ := h3 i hil
    have e6 : (c ++ [l])[i]?.getD [] = c[i]?.getD [] := by rw [List.getElem?_append_left hil]
    rw [e6]
    refine ⟨vi, by rw [List.getElem?_append_left (by omega)]; exact e1, e2, e3, fun g hg => ?_, rdGrew vi _ (fun g hg => (e4 g hg).2) e5⟩
    have := e4 g hg
    exact ⟨this.1, by have := k2.size; omega, k2.off this.2.1 this.2.2⟩
  · have hie : i = c.length := by simp at hi; omega
    have e6 : (c ++ [l])[i]?.getD [] = l := by rw [hie]; simp
    rw [e6]
    have hne : ∀ g, vl.ownBlock = some g → base ≤ g ∧ g < wr.heap.size ∧ v.ownBlock ≠ some g := by
      intro g hg
      have := hl.lt g hg
      exact ⟨by omega, this.2, fun e => by have := hoff g e; omega⟩
    refine ⟨vl, by rw [hie, ← h2]; simp, hv1, by obtain ⟨a, c, rfl⟩ := hl.len; exact ⟨_, _, _, rfl⟩, fun g hg => ?_, rdGrew vl l (fun g hg => (hne g hg).2) ((hl.rd (Nat.le_refl _)).mono hB (Nat.le_refl _))⟩
    have := hne g hg
    exact ⟨this.1, by have := k2.size; omega, k2.off this.2.1 this.2.2⟩

/-- a test that is being made, at w1.heap.size -/
structure UInv (T : Nat) (w1 wr : World) (nv : ByteArray) (uc uw : Value) : Prop where
  below : Below w1.heap.size w1 wr
  hU : wr.heap[w1.heap.size]? = some (.cells #[.string nv, uc, uw] T (0, 0))
section
variable {T : Nat} {w1 wr w' : World} {nv : ByteArray} {uc uw : Value}
theorem UInv.init (T : Nat) (w1 : World) (nv : ByteArray) (uc uw : Value) : UInv T w1 (w1.alloc (.cells #[.string nv, uc, uw] T)) nv uc uw := ⟨(Below.refl _ _).alloc (Nat.le_refl _) _, heap_alloc_new w1 _⟩
theorem UInv.sz (h : UInv T w1 wr nv uc uw) : w1.heap.size + 1 ≤ wr.heap.size := (Array.getElem?_eq_some_iff.1 h.hU).1
theorem UInv.u0 (h : UInv T w1 wr nv uc uw) : wr.cell? ⟨w1.heap.size, 0, none⟩ = some (.string nv) := by rw [cell_of_row _ _ 0 _ _ _ h.hU]; rfl
theorem UInv.u1 (h : UInv T w1 wr nv uc uw) : wr.cell? ⟨w1.heap.size, 1, none⟩ = some uc := by rw [cell_of_row _ _ 1 _ _ _ h.hU]; rfl
theorem UInv.u2 (h : UInv T w1 wr nv uc uw) : wr.cell? ⟨w1.heap.size, 2, none⟩ = some uw := by rw [cell_of_row _ _ 2 _ _ _ h.hU]; rfl
theorem UInv.free (h : UInv T w1 wr nv uc uw) (o : Nat) : wr.frozen? ⟨w1.heap.size, o, none⟩ = false := frozen_of_row wr _ o _ T h.hU
theorem UInv.kept (h : UInv T w1 wr nv uc uw) (hb : Below wr.heap.size wr w') : UInv T w1 w' nv uc uw := by
  have := h.sz
  exact ⟨h.below.trans (hb.mono (by omega)), by rw [hb.block _ (by omega)]; exact h.hU⟩
theorem UInv.grew (h : UInv T w1 wr nv uc uw) {v v' : Value} (hg : Grew wr w' v v') (hv : ∀ k, v.ownBlock = some k → w1.heap.size + 1 ≤ k) : UInv T w1 w' nv uc uw := by
  have := h.sz
  exact ⟨h.below.trans ⟨hg.1.os, hg.1.tape, hg.1.output, hg.size, fun k hk => hg.block (by omega) (fun e => by have := hv k e; omega)⟩, by rw [hg.block (by omega) (fun e => by have := hv _ e; omega)]; exact h.hU⟩
theorem UInv.set1 (h : UInv T w1 wr nv uc uw) (u : Value) : UInv T w1 (wr.setCell ⟨w1.heap.size, 1, none⟩ u) nv u uw := ⟨h.below.setCell (Nat.le_refl _) u, heap_setCell_same wr _ 1 _ _ u h.hU⟩
theorem UInv.set2 (h : UInv T w1 wr nv uc uw) (u : Value) : UInv T w1 (wr.setCell ⟨w1.heap.size, 2, none⟩ u) nv uc u := ⟨h.below.setCell (Nat.le_refl _) u, heap_setCell_same wr _ 2 _ _ u h.hU⟩
end

def rcodes (l : List Ev) (k : Nat) : List (List Q4) := (List.range k).map fun t => rcTo l t l.length
theorem rcodes_succ (l : List Ev) (k : Nat) : rcodes l (k + 1) = rcodes l k ++ [rcTo l k l.length] := by simp [rcodes, List.range_succ]
/-- the document's claims: of the reads among the first k events -/
def rwTo (l : List Ev) : Nat → List Q4
  | 0 => []
  | k + 1 => rwTo l k ++ if (!(l[k]?.getD ev0).wr && !(l[k]?.getD ev0).lo) then [⟨(l[k]?.getD ev0).th, rgTo l k k, 0, (l[k]?.getD ev0).va⟩] else []
/-- and of the cells below c -/
def rvTo (l : List Ev) : Nat → List Q4
  | 0 => []
  | c + 1 => rvTo l c ++ if l.countP (isW c) = 2 then [⟨-1, 0, c, 2⟩] else []
theorem rwTo_len (l : List Ev) (n : Nat) : (rwTo l n).length ≤ n := by
  induction n with
  | zero => exact Nat.le_refl _
  | succ n ih => rw [rwTo, List.length_append]; split <;> simp <;> omega
theorem rvTo_len (l : List Ev) (n : Nat) : (rvTo l n).length ≤ n := by
  induction n with
  | zero => exact Nat.le_refl _
  | succ n ih => rw [rvTo, List.length_append]; split <;> simp <;> omega

set_option maxRecDepth 100000 in
set_option maxHeartbeats 12800000 in
theorem rbuild_any (base : List Nat) (b off cap : Nat) (w : World) (hA : Arr w b off base) (hE : ∀ x ∈ base, x < 14) (hl : 0 < base.length) (hl2 : base.length ≤ 64) (hT : TabR w) (hC : 0 < base.countP lC)
    (hlen : (eventsOf base).length = base.length) (haf : ∀ i, i < base.length → ((eventsOf base)[i]?.getD ev0).af < 14) :
    Calls Tryd.prog 23 #[.slice (some ⟨b, off, none⟩) base.length cap] w fun r w' => ∃ cv wv, r = .returned (.agg #[.string ⟨(tx base).toArray⟩, cv, wv]) ∧ Rd44 w.heap.size w'.heap.size w' cv (rcodes (eventsOf base) (base.countP lT)) ∧ Rd4 w.heap.size w'.heap.size w' wv (rwTo (eventsOf base) base.length ++ rvTo (eventsOf base) (base.countP lC)) ∧ Below w.heap.size w w' := by
  obtain ⟨i0, hi0, hz0, hz1, hz2⟩ := info_parts Tryd.infoRInss
  obtain ⟨j0, hj0, hy0, hy1, hy2⟩ := info_parts Tryd.infoRClaim
  have hb0 : Below w.heap.size w (w.alloc (.cells #[.string ⟨#[]⟩, .slice none 0 0, .slice none 0 0] 52)) := (Below.refl _ _).alloc (Nat.le_refl _) _
  have HLEN : Hid _ := hlen
  have HAF : Hid _ := haf
  have hTl : base.countP lT ≤ base.length := List.countP_le_length
  have hCl : base.countP lC ≤ base.length := List.countP_le_length
  clear hlen haf
  go_enter Tryd.func23, Tryd.ntmps23
  go_wp2_with fail
  refine (events_any base b off cap _ (hA.kept hb0) hE hl hl2 (hT.kept hb0) hC).mono ?_
  rintro r w1 ⟨v1, rfl, hown1, hb1⟩
  obtain ⟨g1, c1, hv1, hg1, hEA⟩ := hown1.shape (by rw [HLEN.out]; exact hl)
  rw [HLEN.out] at hv1
  subst hv1
  have hb01 : Below w.heap.size w w1 := hb0.trans (hb1.mono (by simp))
  have hA1 := hA.kept hb01
  have HT1 : Hid _ := hT.kept hb01
  have HBR1 : Hid (Below (w.heap.size + 1) (w.alloc (.cells #[.string ⟨#[]⟩, .slice none 0 0, .slice none 0 0] 52)) w1) := hb1.mono (by simp)
  have hs1 : w.heap.size + 1 ≤ w1.heap.size := by have := hb1.size; simpa using this
  have HEA : Hid _ := hEA
  have hgl : g1 < w1.heap.size := hEA.1
  clear hown1 hb1 hb0 hg1 hEA
  generalize hle : eventsOf base = l at *
  have HLE : Hid (eventsOf base = l) := hle
  clear hle
  go_wp2_with (go_at_call 33; refine (count_any base b off cap _ hA1 hE (by omega)).mono ?_; rintro r w2 ⟨rfl, rfl⟩)
  refine (text_any base b off cap _ hA1 hE (by omega) HT1.out).mono ?_
  rintro r w2 ⟨rfl, rfl⟩
  go_wp2
  go_loopw [7] (fun i wr => ∃ (k : Nat) (ua : Option Addr) (un : Nat), k ≤ base.countP lT ∧ i = .int .i64 k ∧ UInv 52 w2 wr ⟨(tx base).toArray⟩ (.slice ua k un) (.slice none 0 0) ∧ Own44 wr (w2.heap.size + 1) 86 (.slice ua k un) (rcodes l k)) (fun i _ => base.countP lT - (intOf i).toNat)
  case atStart => exact ⟨0, none, 0, Nat.zero_le _, rfl, UInv.init _ _ _ _ _, Own44.nil _ _ _⟩
  case round =>
    obtain ⟨k, ua, un, hk, rfl, hI, hown⟩ := hrel
    have hszr := hI.sz
    have HI : Hid _ := hI
    have HO : Hid _ := hown
    have u1 := hI.u1
    by_cases hlt : k < base.countP lT
    · have hEr := (EArr.kept HEA.out hI.below)
      have hcall := rcode_any l g1 c1 k wr.drew (hEr.kept (below_drewN (Below.refl _ _) 1)) (by rw [HLEN.out]; omega) (by rw [HLEN.out]; exact HAF.out)
      rw [HLEN.out] at hcall
      have HCALL : Hid _ := hcall
      have HS : Hid _ := rcodes_succ l k
      rw [HLEN.out] at HS
      have hrl : (rcodes l k).length = k := by simp [rcodes]
      have HRL : Hid _ := hrl
      clear hcall hEr hI hown hrl
      generalize rcTo l k base.length = row at *
      go_wp2
      go_region_law (first | (refine step_append_grew rfl (.tmp 26) (.tmp 30) 49 rfl (w2.heap.size + 1) 86 i0 _ 1 24 Tryd.underlying49 hi0 hz0 hz1 hz2 rfl (by decide) _ _ _ (by simp [Act.eval]) (World.ownsRow.alloc HROW.out _) ⟨w3.heap.size, 0, none⟩ 1 1 [.slice a3 n3 c3] (by simp [Act.eval]) rfl (by exact one_new w3 86 (.slice a3 n3 c3)) (fun u hu => by simp at hu; subst hu; rfl) (by unfold maxLen; omega) (by omega) (by simp; omega) ?_; intro v4 w4 hown4 hg4; have hg5 : Grew w3 w4 _ v4 := Grew.trans ⟨World.grownBy_alloc _ _ _, fun _ h => Or.inl h⟩ hg4; have ho44 := Own44.push HCL.out HROWS.out HO3.out hwr3 (fun k hk => (Own44.lt HO.out hk).2) hown4 hg5; obtain ⟨a4, c4, hv4⟩ := Own44.len ho44; rw [List.length_append, HRL.out, List.length_singleton] at hv4; subst hv4; have hI4 := HI3.out.grew hg5 (fun k hk => (Own44.lt HO.out hk).1); have s0 := hI4.u1; have s1 := hI4.free 1; have HI4 : Hid _ := hI4; have HO44 : Hid _ := ho44; clear hown4 hg4 hg5 ho44 hI4) | (go_simp; go_wp2_with (go_at_call 42; refine Calls.mono HCALL.out ?_; rintro r w3 ⟨v3, rfl, hown3, hb3⟩; obtain ⟨a3, c3, hv3⟩ := Own4.len hown3; obtain ⟨n3, hn3⟩ : ∃ n3, n3 = row.length := ⟨_, rfl⟩; rw [← hn3] at hv3; clear hn3; subst hv3; have hI3 := HI.out.kept ((below_drewN (Below.refl wr.heap.size wr) 1).trans hb3); have x1 := hI3.u1; have HI3 : Hid _ := hI3; have ho3 : Own44 w3 (w2.heap.size + 1) 86 (.slice ua k un) (rcodes l k) := Own44.span HO.out (Span.of_below (lo := 0) ((below_drewN (Below.refl wr.heap.size wr) 1).trans hb3) (Nat.le_refl _)) (Nat.zero_le _) (Nat.le_refl _); obtain ⟨cells, hrow, hcl, hrows⟩ := ho3; have hcll : cells.length = k := hcl.trans HRL.out; have HROW : Hid _ := hrow; have HCL : Hid _ := hcl; have HROWS : Hid _ := hrows; have HO3 : Hid _ := hown3; have hwr3 : w2.heap.size + 1 ≤ wr.drew.heap.size := hszr; have hs3 : w2.heap.size + 1 ≤ w3.heap.size := hI3.sz; have hl3 : w2.heap.size < w3.heap.size := hs3; have hne3 : ¬ (w2.heap.size = w3.heap.size) := Nat.ne_of_lt hs3; clear hown3 hb3 hI3 hrow hcl hrows)))
      all_goals go_wp2
      all_goals go_roundw
      all_goals first | exact ⟨k + 1, a4, c4, by omega, by go_num, HI4.out.set1 _, by rw [HS.out]; exact Own44.span HO44.out ((Span.refl (w2.heap.size + 1) w4.heap.size w4).set (Or.inl (by omega)) _) (Nat.le_refl _) (Nat.le_refl _)⟩ | (simp [intOf]; omega)
    · have hke : k = base.countP lT := by omega
      have HKE : Hid _ := hke
      rename World => wo
      have hso : w2.heap.size + 1 ≤ wo.heap.size := hszr
      clear hI hown hke
      go_wp2
      go_loopw [8] (fun i wr => ∃ (q : Nat) (xa : Option Addr) (xn xl : Nat), q ≤ base.length ∧ i = .int .i64 q ∧ UInv 52 w2 wr ⟨(tx base).toArray⟩ (.slice ua k un) (.slice xa xl xn) ∧ Own4 wr wo.heap.size 93 (.slice xa xl xn) (rwTo l q) ∧ Span (w2.heap.size + 1) wo.heap.size wo wr) (fun i _ => base.length - (intOf i).toNat)
      case atStart => exact ⟨0, none, 0, 0, Nat.zero_le _, rfl, HI.out, Own4.nil _ _ _, Span.refl _ _ _⟩
      case round =>
        obtain ⟨q, xa, xn, xl, hq, rfl, hI, hown, hsp⟩ := hrel
        have HI2 : Hid _ := hI
        have HO2 : Hid (Own4 wr wo.heap.size 93 (.slice xa xl xn) (rwTo l q)) := hown
        have HSP : Hid _ := hsp
        have hszw := hI.sz
        have hspz := hsp.size
        have x2 := hI.u2
        by_cases hql : q < base.length
        · have hEr := EArr.kept HEA.out hI.below
          have E := hEr.at (i := q) (by rw [HLEN.out]; exact hql)
          have q0 := E.wr
          have q1 := E.th
          have q4 := E.va
          have q5 := E.lo
          have hgr : g1 < wr.heap.size := by omega
          have hrw := rwTo_len l q
          have hreg := register_any l g1 c1 q wr.drew (hEr.kept (below_drewN (Below.refl _ _) 1)) (by rw [HLEN.out]; exact hql) (by rw [HLEN.out]; omega)
          rw [HLEN.out] at hreg
          have HREG : Hid _ := hreg
          have HWS : Hid (rwTo l (q + 1) = rwTo l q ++ if (!(l[q]?.getD ev0).wr && !(l[q]?.getD ev0).lo) then [⟨(l[q]?.getD ev0).th, rgTo l q q, 0, (l[q]?.getD ev0).va⟩] else []) := rfl
          clear E hEr hI hown hsp hreg u1
          generalize (l[q]?.getD ev0).wr = wq at *
          generalize (l[q]?.getD ev0).lo = lq at *
          generalize (l[q]?.getD ev0).th = tq at *
          generalize (l[q]?.getD ev0).va = vq at *
          generalize rgTo l q q = rg at *
          cases wq
          · cases lq
            · have HWT : Hid (rwTo l (q + 1) = rwTo l q ++ [⟨(tq : Int), (rg : Int), 0, (vq : Int)⟩]) := by show _ = _; rw [HWS.out]; simp
              go_wp2
              go_region_law (first | (refine step_append_grew rfl (.tmp 54) (.tmp 69) 50 rfl wo.heap.size 93 j0 _ 4 32 Tryd.underlying50 hj0 hy0 hy1 hy2 rfl (by decide) _ _ _ (by simp [Act.eval]) (World.ownsRow.alloc HO3.out _) ⟨w3.heap.size, 0, none⟩ 1 1 (cells4 ⟨(tq : Int), (rg : Int), 0, (vq : Int)⟩) (by simp [Act.eval]) rfl (by exact four_new w3 93 ⟨(tq : Int), (rg : Int), 0, (vq : Int)⟩) (cells4_one _) (by unfold maxLen; omega) (by omega) (by simp; omega) ?_; intro v4 w4 hown4 hg4; have hg5 : Grew w3 w4 _ v4 := Grew.trans ⟨World.grownBy_alloc _ _ _, fun _ h => Or.inl h⟩ hg4; have ho4 : Own4 w4 wo.heap.size 93 v4 (rwTo l q ++ [⟨(tq : Int), (rg : Int), 0, (vq : Int)⟩]) := Own4.snoc hown4; obtain ⟨a4, c4, hv4⟩ := Own4.len ho4; obtain ⟨n4, hn4⟩ : ∃ n4, n4 = (rwTo l q ++ [(⟨(tq : Int), (rg : Int), 0, (vq : Int)⟩ : Q4)]).length := ⟨_, rfl⟩; rw [← hn4] at hv4; clear hn4; subst hv4; have hI4 := HI3.out.grew hg5 (fun k hk => Nat.le_trans hso (World.ownsRow.lt HO3.out k hk).1); have s0 := hI4.u2; have s1 := hI4.free 2; have HI4 : Hid _ := hI4; have HO4 : Hid _ := ho4; have HSP4 : Hid (Span (w2.heap.size + 1) wo.heap.size wo w4) := HSP3.out.grew hg5 (Nat.le_trans hspz hw3) (fun k hk => Or.inr (World.ownsRow.lt HO3.out k hk).1); clear hown4 hg4 hg5 ho4 hI4) | (go_simp; go_wp2_with (go_at_call 43; refine Calls.mono HREG.out ?_; rintro r w3 ⟨rfl, hb3⟩; have hb4 : Below wr.heap.size wr w3 := (below_drewN (Below.refl wr.heap.size wr) 1).trans hb3; have hI3 := HI2.out.kept hb4; have z2 := hI3.u2; have z1 := (hb4.cell (p := ⟨g1, q * 6 + 1, none⟩) hgr).trans q1; have z4 := (hb4.cell (p := ⟨g1, q * 6 + 4, none⟩) hgr).trans q4; have HI3 : Hid _ := hI3; have HO3 : Hid _ := ownsRow_kept HO2.out hb4; have HSP3 : Hid _ := HSP.out.trans (Span.of_below hb4 hspz); have hw3 : wr.heap.size ≤ w3.heap.size := hb4.size; have hl3 : w2.heap.size < w3.heap.size := Nat.lt_of_lt_of_le hszw hw3; have hne3 : ¬ (w2.heap.size = w3.heap.size) := Nat.ne_of_lt hl3; have hg3 : g1 < w3.heap.size := Nat.lt_of_lt_of_le hgr hw3; have hgn3 : ¬ (g1 = w3.heap.size) := Nat.ne_of_lt hg3; clear hb3 hb4 hI3)))
              all_goals go_wp2
              all_goals go_roundw
              all_goals first | exact ⟨q + 1, a4, c4, n4, by omega, by go_num, HI4.out.set2 _, by rw [HWT.out]; exact ownsRow_span HO4.out ((Span.refl wo.heap.size w4.heap.size w4).set (Or.inl (by omega)) _) (Nat.le_refl _) (Nat.le_refl _), HSP4.out.set (Or.inl (by omega)) _⟩ | (simp [intOf]; omega)
            · have HWT : Hid (rwTo l (q + 1) = rwTo l q) := by show _ = _; rw [HWS.out]; simp
              go_wp2
              go_roundw
              case rel => exact ⟨q + 1, xa, xn, xl, by omega, by go_num, HI2.out, by rw [HWT.out]; exact HO2.out, HSP.out⟩
              case measure => simp [intOf]; omega
          · have HWT : Hid (rwTo l (q + 1) = rwTo l q) := by show _ = _; rw [HWS.out]; simp
            go_wp2
            go_roundw
            case rel => exact ⟨q + 1, xa, xn, xl, by omega, by go_num, HI2.out, by rw [HWT.out]; exact HO2.out, HSP.out⟩
            case measure => simp [intOf]; omega
        · have hqe : q = base.length := by omega
          subst hqe
          clear hI hown hsp u1
          go_wp2
          go_loopw [9] (fun i wr => ∃ (c : Nat) (xa : Option Addr) (xn xl : Nat), c ≤ base.countP lC ∧ i = .int .i64 c ∧ UInv 52 w2 wr ⟨(tx base).toArray⟩ (.slice ua k un) (.slice xa xl xn) ∧ Own4 wr wo.heap.size 93 (.slice xa xl xn) (rwTo l base.length ++ rvTo l c) ∧ Span (w2.heap.size + 1) wo.heap.size wo wr) (fun i _ => base.countP lC - (intOf i).toNat)
          case atStart => exact ⟨0, xa, xn, xl, Nat.zero_le _, rfl, HI2.out, by simpa [rvTo] using HO2.out, HSP.out⟩
          case round =>
            clear HI2 HO2 HSP hszw hspz x2
            obtain ⟨c, ya, yn, yl, hc, rfl, hI, hown, hsp⟩ := hrel
            have HI2 : Hid _ := hI
            have HO2 : Hid (Own4 wr wo.heap.size 93 (.slice ya yl yn) (rwTo l base.length ++ rvTo l c)) := hown
            have HSP : Hid _ := hsp
            have hszw := hI.sz
            have hspz := hsp.size
            have x2 := hI.u2
            by_cases hcl : c < base.countP lC
            · have hwr := writes_any l g1 c1 c wr (EArr.kept HEA.out hI.below) (by rw [HLEN.out]; omega)
              rw [HLEN.out] at hwr
              have HWR : Hid _ := hwr
              have hcw : l.countP (isW c) ≤ l.length := List.countP_le_length
              rw [HLEN.out] at hcw
              have hr1 := rwTo_len l base.length
              have hr2 := rvTo_len l c
              have HVS : Hid (rvTo l (c + 1) = rvTo l c ++ if l.countP (isW c) = 2 then [⟨-1, 0, c, 2⟩] else []) := rfl
              clear hI hown hsp hwr
              generalize l.countP (isW c) = cnt at *
              by_cases h2 : cnt = 2
              · have h2I : ((cnt : Int) == 2) = true := by rw [beq_iff_eq]; omega
                have HVT : Hid (rwTo l base.length ++ rvTo l (c + 1) = (rwTo l base.length ++ rvTo l c) ++ [⟨-1, 0, (c : Int), 2⟩]) := by show _ = _; rw [HVS.out, if_pos h2]; simp
                clear h2 HVS
                go_wp2_with (first | (go_at_call 36; refine Calls.mono HWR.out ?_; rintro r w9 ⟨rfl, rfl⟩) | (at_builtin; refine wpList_push4 rfl _ _ 50 rfl wo.heap.size 93 Tryd.underlying50 Tryd.infoRClaim _ _ (⟨-1, 0, (c : Int), 2⟩ : Q4) (by rfl) (by simp [Act.eval]) HO2.out (by simp; omega) hspz ?_; intro v4 w4 hown4 hg4; obtain ⟨a4, c4, hv4⟩ := Own4.len hown4; obtain ⟨n4, hn4⟩ : ∃ n4, n4 = ((rwTo l base.length ++ rvTo l c) ++ [(⟨-1, 0, (c : Int), 2⟩ : Q4)]).length := ⟨_, rfl⟩; rw [← hn4] at hv4; clear hn4; subst hv4; have hI4 := HI2.out.grew hg4 (fun k hk => Nat.le_trans hso (World.ownsRow.lt HO2.out k hk).1); have s0 := hI4.u2; have s1 := hI4.free 2; have HI4 : Hid _ := hI4; have HO4 : Hid _ := hown4; have HSP4 : Hid (Span (w2.heap.size + 1) wo.heap.size wo w4) := HSP.out.grew hg4 hspz (fun k hk => Or.inr (World.ownsRow.lt HO2.out k hk).1); clear hown4 hg4 hI4 x2))
                go_roundw
                case rel => exact ⟨c + 1, a4, c4, n4, by omega, by go_num, HI4.out.set2 _, by rw [HVT.out]; exact ownsRow_span HO4.out ((Span.refl wo.heap.size w4.heap.size w4).set (Or.inl (by omega)) _) (Nat.le_refl _) (Nat.le_refl _), HSP4.out.set (Or.inl (by omega)) _⟩
                case measure => simp [intOf]; omega
              · have h2I : ((cnt : Int) == 2) = false := by rw [beq_eq_false_iff_ne]; omega
                have HVT : Hid (rvTo l (c + 1) = rvTo l c) := by show _ = _; rw [HVS.out, if_neg h2]; simp
                clear h2 HVS
                go_wp2_with (go_at_call 36; refine Calls.mono HWR.out ?_; rintro r w9 ⟨rfl, rfl⟩)
                go_roundw
                case rel => exact ⟨c + 1, ya, yn, yl, by omega, by go_num, HI2.out, by rw [HVT.out]; exact HO2.out, HSP.out⟩
                case measure => simp [intOf]; omega
            · have hce : c = base.countP lC := by omega
              have u0 := hI.u0
              have u1 := hI.u1
              have hBR : Below (w.heap.size + 1) (w.alloc (.cells #[.string ⟨#[]⟩, .slice none 0 0, .slice none 0 0] 52)) wr := HBR1.out.trans (hI.below.mono hs1)
              obtain ⟨hF1, hF2, r0, r1, r2, f0, f1, f2⟩ := fin3 hBR (B := w2.heap.size) hs1 (.string ⟨(tx base).toArray⟩) (.slice ua k un) (.slice ya yl yn)
              have HF1 : Hid _ := hF1
              have HF2 : Hid _ := hF2
              have HCE : Hid _ := hce
              clear hI hown hsp hF1 hF2 hBR hce
              go_wp2
              refine bodyPost_ret (v := .agg #[.string ⟨(tx base).toArray⟩, .slice ua k un, .slice ya yl yn]) (by simp [results, Tryd.results23, go_sem, r0, r1, r2]) rfl ⟨.slice ua k un, .slice ya yl yn, rfl, ?_, ?_, HF2.out⟩
              · rw [HLE.out, ← HKE.out]
                have hsp1 : Span (w2.heap.size + 1) wo.heap.size wr _ := HF1.out.mono (Nat.le_succ _) hspz
                exact Rd44.mono (Rd44.span (Rd44.span (Own44.rd HO.out) HSP.out) hsp1) (by omega) (Nat.le_trans hspz HF1.out.size)
              · rw [HLE.out, ← HCE.out]
                have hsp1 : Span wo.heap.size wr.heap.size wr _ := HF1.out.mono (by omega) (Nat.le_refl _)
                exact Rd4.mono (Rd4.span (Own4.rd HO2.out (Nat.le_refl wr.heap.size)) hsp1) (by omega) HF1.out.size

end Go.Proofs.YtokfiflflcfidaaDoor
