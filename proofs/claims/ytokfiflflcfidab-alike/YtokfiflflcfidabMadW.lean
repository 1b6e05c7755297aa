import Derived.Test.YtokfiflflcfidabRows
import Derived.Test.YtokfiflflcfidabGivW
import Derived.WalkKit
import Derived.WalkSpells
import Derived.WalkLawsBesides
import Derived.Deep.QuietTactic
import Derived.BigQuiet
namespace Go.Proofs.Ytokfiflflcfidab
open Go.RowKit

theorem Try.infoMIns : (Try.prog.info? 57).map (fun i => (i.zero, i.size, i.bytes)) = some (some (.agg #[.int .i64 0, .int .i64 0, .int .i64 0, .int .i64 0]), 4, 32) := by kernel_rfl
theorem Try.infoMInss : (Try.prog.info? 56).map (fun i => (i.zero, i.size, i.bytes)) = some (some (.slice none 0 0), 1, 24) := by kernel_rfl
theorem Try.infoMClaim : (Try.prog.info? 58).map (fun i => (i.zero, i.size, i.bytes)) = some (some (.agg #[.int .i64 0, .int .i64 0, .int .i64 0, .int .i64 0]), 4, 32) := by kernel_rfl

/-- the same of four numbers -/
theorem wpList_push4b {P : Program} {wr : World} {ops : Array Oper} {rest : List Oper} {o : Oper} {a : Act} {Q : Exit → Act → World → Prop} (hgd : o.guard = none) (s x : Operand) (t : TypeId)
    (ho : o.op = .call { callee := .builtin .append, args := #[s, x], argTypes := #[t, t] })
    (base : Nat) (T : TypeId) (ht : P.underlying t = some (.slice T)) (hinfo : (P.info? T).map (fun i => (i.zero, i.size, i.bytes)) = some (some (.agg #[.int .i64 0, .int .i64 0, .int .i64 0, .int .i64 0]), 4, 32))
    (v : Value) (l : List Q4) (e : Q4) (hs : a.eval s = v) (hx : a.eval x = .slice (some ⟨wr.heap.size, 0, none⟩) 1 1)
    (hown : Own4 wr base T v l) (hlen : l.length ≤ 4398046511000) (hbase : base ≤ wr.heap.size)
    (h : ∀ v' w', Own4 w' base T v' (l ++ [e]) → Grew wr w' v v' → wpList P ops Q rest (a.put o.dst v') w') :
    wpList P ops Q (o :: rest) a (wr.alloc (.cells #[.int .i64 e.a, .int .i64 e.b, .int .i64 e.c, .int .i64 e.d] T)) := by
  refine wpList_pushK hgd s x t ho base T (.agg #[.int .i64 0, .int .i64 0, .int .i64 0, .int .i64 0]) 4 32 ht hinfo rfl (by decide) v l.length (l.flatMap cells4) #[.int .i64 e.a, .int .i64 e.b, .int .i64 e.c, .int .i64 e.d] (cells4 e) (four_new wr T e) rfl (cells4_one e) hs hx hown (by omega) (by unfold maxLen; omega) hbase ?_
  intro v' w' h1 h2
  refine h v' w' ?_ h2
  unfold Own4
  rw [List.flatMap_append, List.length_append]
  simpa using h1

/-- 'c = append(c, l)' -/
theorem wpList_push44b {P : Program} {wr : World} {ops : Array Oper} {rest : List Oper} {o : Oper} {a : Act} {Q : Exit → Act → World → Prop} (hgd : o.guard = none) (s x : Operand) (t : TypeId)
    (ho : o.op = .call { callee := .builtin .append, args := #[s, x], argTypes := #[t, t] })
    (base : Nat) (T : TypeId) (ht : P.underlying t = some (.slice T)) (hinfo : (P.info? T).map (fun i => (i.zero, i.size, i.bytes)) = some (some (.slice none 0 0), 1, 24))
    (v : Value) (c : List (List Q4)) (l : List Q4) (vl : Value) (B T4 : Nat) (hl : Own4 wr B T4 vl l) (hB : base ≤ B) (hoff : ∀ k, v.ownBlock = some k → k < B) (hs : a.eval s = v) (hx : a.eval x = .slice (some ⟨wr.heap.size, 0, none⟩) 1 1)
    (hown : Own44 wr base T v c) (hlen : c.length ≤ 5864062014700) (hbase : base ≤ wr.heap.size)
    (h : ∀ v' w', Own44 w' base T v' (c ++ [l]) → Grew wr w' v v' → wpList P ops Q rest (a.put o.dst v') w') :
    wpList P ops Q (o :: rest) a (wr.alloc (.cells #[vl] T)) := by
  obtain ⟨cells, h1, h2, h3⟩ := hown
  have hv1 : vl.oneCell' = true := by
    obtain ⟨a, c, rfl⟩ := hl.len
    rfl
  refine wpList_pushG hgd s x t ho base T (.slice none 0 0) 24 ht hinfo rfl v cells vl hv1 hs hx h1 (by rw [h2]; omega) (by rw [h2]; unfold maxLen; omega) hbase ?_
  intro v' w' k1 k2
  refine h v' w' ⟨_, k1, by simp [h2], fun i hi => ?_⟩ k2
  have rdGrew : ∀ vi li, (∀ g, vi.ownBlock = some g → g < wr.heap.size ∧ v.ownBlock ≠ some g) → Rd4 base wr.heap.size wr vi li → Rd4 base w'.heap.size w' vi li := by
    rintro vi li hne ⟨a, cap, rfl, hh⟩
    refine ⟨a, cap, rfl, fun j hj => ?_⟩
    obtain ⟨b, off, rfl, e2, e3, e4⟩ := hh j hj
    have hb := hne b rfl
    have hblk := k2.block hb.1 hb.2
    refine ⟨b, off, rfl, e2, by have := k2.size; omega, ?_⟩
    exact ⟨(World.cell?_of_block (w := wr) (a := ⟨b, _, none⟩) hblk).trans e4.f0, (World.cell?_of_block (w := wr) (a := ⟨b, _, none⟩) hblk).trans e4.f1, (World.cell?_of_block (w := wr) (a := ⟨b, _, none⟩) hblk).trans e4.f2, (World.cell?_of_block (w := wr) (a := ⟨b, _, none⟩) hblk).trans e4.f3⟩
  by_cases hil : i < c.length
  · obtain ⟨vi, e1, e2, e3, e4, e5⟩ := h3 i hil
    have e6 : (c ++ [l])[i]?.getD [] = c[i]?.getD [] := by rw [List.getElem?_append_left hil]
    rw [e6]
    refine ⟨vi, by rw [List.getElem?_append_left (by omega)]; exact e1, e2, e3, fun g hg => ?_, rdGrew vi _ (fun g hg => (e4 g hg).2) e5⟩
    have := e4 g hg
    exact ⟨this.1, by have := k2.size; omega, k2.off this.2.1 this.2.2⟩
  · have hie : i = c.length := by simp at hi; omega
    have e6 : (c ++ [l])[i]?.getD [] = l := by rw [hie]; simp
    rw [e6]
    have hne : ∀ g, vl.ownBlock = some g → base ≤ g ∧ g < wr.heap.size ∧ v.ownBlock ≠ some g := by
      intro g hg
      have := hl.lt g hg
      exact ⟨by omega, this.2, fun e => by have := hoff g e; omega⟩
    refine ⟨vl, by rw [hie, ← h2]; simp, hv1, by obtain ⟨a, c, rfl⟩ := hl.len; exact ⟨_, _, _, rfl⟩, fun g hg => ?_, rdGrew vl l (fun g hg => (hne g hg).2) ((hl.rd (Nat.le_refl _)).mono hB (Nat.le_refl _))⟩
    have := hne g hg
    exact ⟨this.1, by have := k2.size; omega, k2.off this.2.1 this.2.2⟩

set_option maxRecDepth 100000 in
set_option maxHeartbeats 1600000 in
theorem made_any (nv : ByteArray) (cv wv : Value) (code : List (List Q4)) (want : List Q4) (lo hi : Nat) (w : World) (hC : Rd44 lo hi w cv code) (hW : Rd4 lo hi w wv want) (hhi : hi ≤ w.heap.size)
    (b1 : code.length ≤ 5864062014700) (b2 : ∀ k : Nat, (code[k]?.getD []).length ≤ 4398046511000) (b3 : want.length ≤ 4398046511000) :
    Calls Try.prog 7 #[.agg #[.string nv, cv, wv]] w fun r w' => ∃ cv' wv', r = .returned (.agg #[.string nv, cv', wv']) ∧ Rd44 w.heap.size w'.heap.size w' cv' code ∧ Rd4 w.heap.size w'.heap.size w' wv' want ∧ Below w.heap.size w w' := by
  obtain ⟨ca, cc, rfl, hC⟩ := hC
  obtain ⟨wa, wc, rfl, hW⟩ := hW
  have HC : Hid _ := hC
  have HW : Hid _ := hW
  have HB2 : Hid _ := b2
  clear hC hW b2
  go_enter Try.func7, Try.ntmps7
  go_wp2
  go_loopw [4] (fun i wr => ∃ (k : Nat) (uc : Value), k ≤ code.length ∧ i = .int .i64 k ∧ GInv 25 31 w wr nv (.slice ca code.length cc) (.slice wa want.length wc) uc (.slice none 0 0) ∧ Own44 wr (w.heap.size + 3) 56 uc (code.take k)) (fun i _ => code.length - (intOf i).toNat)
  case atStart =>
    exact ⟨0, .slice none 0 0, Nat.zero_le _, rfl, GInv.init _ _ _ _ _ _, Own44.nil _ _ _⟩
  case round =>
    rename World => wo
    obtain ⟨k, uc, hk, rfl, hI, hown⟩ := hrel
    have ht1 := hI.t1
    have ht2 := hI.t2
    have hsz := hI.sz
    have hbl := hI.below
    obtain ⟨ua, un, hul⟩ := hown.len
    rw [List.length_take, Nat.min_eq_left hk] at hul
    subst hul
    have hu1 := hI.u1
    have HI : Hid _ := hI
    have HO : Hid _ := hown
    have hB0 : w.heap.size < wo.heap.size := by omega
    have hB2 : w.heap.size + 1 + 1 < wo.heap.size := by omega
    by_cases hlt : k < code.length
    · obtain ⟨cb, co, vk, rfl, hcl, hch, hcell, hrow⟩ := HC.out k hlt
      have hcb : cb < w.heap.size := by omega
      obtain ⟨ra, rc, rfl, hrow⟩ := hrow
      have HROW : Hid _ := hrow
      have hck := (hbl.cell (p := ⟨cb, co + k, none⟩) hcb).trans hcell
      have hrl := HB2.out k
      have HS : Hid _ := take_snocQQ code k hlt
      clear hrow hcell hI hown hbl
      generalize code[k]?.getD [] = row at *
      go_wp2
      go_loopw [5, 6] (fun v i wr => ∃ j : Nat, j ≤ row.length ∧ i = .int .i64 j ∧ Own4 wr wo.heap.size 57 v (row.take j) ∧ Below wo.heap.size wo wr) (fun _ i _ => row.length - (intOf i).toNat)
      case atStart => exact ⟨0, Nat.zero_le _, rfl, Own4.nil _ _ _, Below.refl _ _⟩
      case round =>
        obtain ⟨j, hj, rfl, hown4, hbi⟩ := hrel
        have g1 := (hbi.cell (p := ⟨w.heap.size, 1, none⟩) hB0).trans ht1
        have g2 := (hbi.cell (p := ⟨cb, co + k, none⟩) (by dsimp only; omega)).trans hck
        have hsi := hbi.size
        have hcbw : cb < wr.heap.size := by omega
        have hB0i : w.heap.size < wr.heap.size := by omega
        have HBI : Hid _ := hbi
        have HO4 : Hid _ := hown4
        clear ht1 hck hbi hown4
        by_cases hjl : j < row.length
        · obtain ⟨rb, ro, rfl, hrlo, hrhi, hat⟩ := HROW.out j hjl
          have hrbo : rb < wo.heap.size := by omega
          have hrbw : rb < w.heap.size := by omega
          have x0 := ((HBI.out.cell (p := ⟨rb, ro + j * 4, none⟩) hrbo).trans ((HI.out.below.cell (p := ⟨rb, ro + j * 4, none⟩) hrbw).trans hat.f0))
          have x1 := ((HBI.out.cell (p := ⟨rb, ro + j * 4 + 1, none⟩) hrbo).trans ((HI.out.below.cell (p := ⟨rb, ro + j * 4 + 1, none⟩) hrbw).trans hat.f1))
          have x2 := ((HBI.out.cell (p := ⟨rb, ro + j * 4 + 2, none⟩) hrbo).trans ((HI.out.below.cell (p := ⟨rb, ro + j * 4 + 2, none⟩) hrbw).trans hat.f2))
          have x3 := ((HBI.out.cell (p := ⟨rb, ro + j * 4 + 3, none⟩) hrbo).trans ((HI.out.below.cell (p := ⟨rb, ro + j * 4 + 3, none⟩) hrbw).trans hat.f3))
          have HSJ : Hid _ := take_snocQ row j hjl
          have hlj : (row.take j).length ≤ 4398046511000 := by rw [List.length_take]; omega
          clear hat
          generalize row[j]?.getD q0 = x at *
          go_wp2_with (at_builtin; go_must (refine wpList_push4b rfl _ _ 56 rfl wo.heap.size 57 Try.underlying56 Try.infoMIns _ _ x (by rfl) (by simp [Act.eval]) (HO4.out.alloc _) hlj (by simp; omega) ?_); intro v' w1 hown1 hg1; clear x0 x1 x2 x3 g1 g2)
          go_roundw
          case rel => exact ⟨j + 1, by omega, by go_num, by rw [HSJ.out]; exact hown1, hg1.below (HBI.out.alloc (by omega) _) (by simp; omega) (HO4.out.alloc _)⟩
          case measure => simp [intOf]; omega
        · have hje : row.take j = row := List.take_of_length_le (by omega)
          obtain ⟨va, vc, hva⟩ := Own4.len HO4.out
          rw [hje] at hva
          subst hva
          have HO5 : Hid _ := HO4.out
          rw [hje] at HO5
          have hO44 := Own44.span HO.out (Span.of_below (lo := 0) HBI.out (Nat.le_refl _)) (Nat.zero_le _) (Nat.le_refl _)
          have hIr := HI.out.kept HBI.out hsz
          have hu1r := hIr.u1
          have hkl : (code.take k).length ≤ 5864062014700 := by rw [List.length_take]; omega
          have HIR : Hid _ := hIr
          have HO44 : Hid _ := hO44
          have hB2r : w.heap.size + 1 + 1 < wr.heap.size := by omega
          clear hIr hO44 hu1 hje
          go_wp2_with (at_builtin; go_must (refine wpList_push44b rfl _ _ 28 rfl (w.heap.size + 3) 56 Try.underlying28 Try.infoMInss _ (code.take k) row _ wo.heap.size 57 HO5.out hsz (fun b hb => (Own44.lt HO.out hb).2) (by rfl) (by rfl) HO44.out hkl (by omega) ?_); intro v' w2 hown2 hg2; obtain ⟨a', c', hv'⟩ := Own44.len hown2; rw [← HS.out, List.length_take, Nat.min_eq_left hlt] at hv'; subst hv'; have hI2 := HIR.out.grew hg2 (fun b hb => (Own44.lt HO.out hb).1); have s3 := hI2.u1; have s4 := hI2.free 1; have HI2 : Hid _ := hI2; have HOW2 : Hid _ := hown2; clear hown2 hI2 hg2 hu1r g1 g2)
          go_roundw
          case rel => exact ⟨k + 1, _, by omega, by go_num, HI2.out.set1 _, by rw [HS.out]; exact Own44.span HOW2.out ((Span.refl (w.heap.size + 3) w2.heap.size w2).set (Or.inl (by omega)) _) (Nat.le_refl _) (Nat.le_refl _)⟩
          case measure => simp [intOf]; omega
    · have hke : code.take k = code := List.take_of_length_le (by omega)
      rw [hke] at HO
      have HU : Hid _ := HI.out
      clear hI hown hu1
      go_wp2
      go_loopw [8] (fun i wr => ∃ (j : Nat) (uw : Value), j ≤ want.length ∧ i = .int .i64 j ∧ GInv 25 31 w wr nv (.slice ca code.length cc) (.slice wa want.length wc) (.slice ua k un) uw ∧ Own4 wr wo.heap.size 58 uw (want.take j) ∧ Span (w.heap.size + 3) wo.heap.size wo wr) (fun i _ => want.length - (intOf i).toNat)
      case atStart => exact ⟨0, .slice none 0 0, Nat.zero_le _, rfl, HI.out, Own4.nil _ _ _, Span.refl _ _ _⟩
      case round =>
        obtain ⟨j, uw, hj, rfl, hI3, hown3, hsp⟩ := hrel
        obtain ⟨uwa, uwn, hul⟩ := hown3.len
        rw [List.length_take, Nat.min_eq_left hj] at hul
        subst hul
        have g2 := hI3.t2
        have g3 := hI3.u2
        have hss := hsp.size
        have HI3 : Hid _ := hI3
        have HO3 : Hid _ := hown3
        have HSP : Hid _ := hsp
        have hB0i : w.heap.size < wr.heap.size := by omega
        have hB2i : w.heap.size + 1 + 1 < wr.heap.size := by omega
        clear ht2
        by_cases hjl : j < want.length
        · obtain ⟨rb, ro, rfl, hrlo, hrhi, hat⟩ := HW.out j hjl
          have hrbw : rb < w.heap.size := by omega
          have hrbr : rb < wr.heap.size := by omega
          have x0 := (hI3.below.cell (p := ⟨rb, ro + j * 4, none⟩) hrbw).trans hat.f0
          have x1 := (hI3.below.cell (p := ⟨rb, ro + j * 4 + 1, none⟩) hrbw).trans hat.f1
          have x2 := (hI3.below.cell (p := ⟨rb, ro + j * 4 + 2, none⟩) hrbw).trans hat.f2
          have x3 := (hI3.below.cell (p := ⟨rb, ro + j * 4 + 3, none⟩) hrbw).trans hat.f3
          have HSJ : Hid _ := take_snocQ want j hjl
          have hlj : (want.take j).length ≤ 4398046511000 := by rw [List.length_take]; omega
          clear hat hI3 hown3 hsp
          generalize want[j]?.getD q0 = x at *
          have hbn : ¬ (w.heap.size + 1 + 1 = wr.heap.size) := by omega
          go_wp2_with (at_builtin; go_must (refine wpList_push4b rfl _ _ 29 rfl wo.heap.size 58 Try.underlying29 Try.infoMClaim _ _ x (by rfl) (by simp [Act.eval]) (HO3.out.alloc _) hlj (by simp; omega) ?_); intro v' w2 hown2 hg2; obtain ⟨a', c', hv'⟩ := Own4.len hown2; rw [← HSJ.out, List.length_take, Nat.min_eq_left hjl] at hv'; subst hv'; have hI4 := (HI3.out.kept ((Below.refl wr.heap.size wr).alloc (Nat.le_refl _) _) (by omega)).grew hg2 (fun b hb => by have := (HO3.out.lt b hb).1; omega); have s3 := hI4.u2; have s4 := hI4.free 2; have HI4 : Hid _ := hI4; have HOW2 : Hid _ := hown2; have HG2 : Hid _ := hg2; clear hown2 hI4 hg2 g2 g3 x0 x1 x2 x3)
          go_roundw
          case rel => exact ⟨j + 1, _, by omega, by go_num, HI4.out.set2 _, by rw [HSJ.out]; exact ownsRow_span HOW2.out ((Span.refl wo.heap.size w2.heap.size w2).set (Or.inl (by omega)) _) (Nat.le_refl _) (Nat.le_refl _), ((HSP.out.alloc hss _).grew HG2.out (by simp; omega) (fun b hb => Or.inr (HO3.out.lt b hb).1)).set (Or.inl (by omega)) _⟩
          case measure => simp [intOf]; omega
        · have hje : want.take j = want := List.take_of_length_le (by omega)
          rw [hje] at HO3
          have u0 := hI3.u0
          have u1 := hI3.u1
          have f0 := hI3.freeR 0
          have f1 := hI3.freeR 1
          have f2 := hI3.freeR 2
          obtain ⟨r0, r1, r2⟩ := hI3.r
          have hR1 : w.heap.size + 1 < wr.heap.size := by omega
          clear hI3 hown3 hsp hje
          go_wp2
          refine bodyPost_ret (v := .agg #[.string nv, .slice ua k un, .slice uwa j uwn]) (by simp [results, Try.results7, go_sem, r0, r1, r2]) rfl ⟨_, _, rfl, ?_, ?_, ?_⟩
          · have hf := (HI3.out.fin (.string nv) (.slice ua k un) (.slice uwa j uwn)).1
            exact Rd44.mono (Rd44.span (Rd44.span (Own44.rd HO.out) HSP.out) (hf.mono (Nat.le_refl _) hss)) (by omega) (Nat.le_trans hss hf.size)
          · have hf := (HI3.out.fin (.string nv) (.slice ua k un) (.slice uwa j uwn)).1
            exact Rd4.mono (Rd4.span (Own4.rd HO3.out (Nat.le_refl _)) (hf.mono (by omega) (Nat.le_refl _))) (by omega) hf.size
          · exact (HI3.out.fin (.string nv) (.slice ua k un) (.slice uwa j uwn)).2

end Go.Proofs.Ytokfiflflcfidab
