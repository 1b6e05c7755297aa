import Derived.Test.YtokfiflflcfidaaRows
import Derived.Test.YtokfiflflcfidaaPrtM
import Derived.Test.YtokfiflflcfidaaQfR
import Derived.Test.YtokfiflflcfidaaPSndT
import Derived.WalkKit
import Derived.WalkSpells
import Derived.WalkLawsBesides
import Derived.Laws.IdiomStrings
import Derived.Lib.AppendStr
namespace Go.Proofs.Ytokfiflflcfidaa
open Go.RowKit

/-- the cells of a row of bytes -/
def byV (l : List UInt8) : List Value := l.map fun b => Value.int .u8 ((b.toNat : Nat) : Int)
theorem byV_length (l : List UInt8) : (byV l).length = l.length := by simp [byV]
theorem byV_append (l m : List UInt8) : byV l ++ byV m = byV (l ++ m) := by simp [byV]
/-- a call's own bytes, behind the world w0 -/
structure Txt (w0 wr : World) (T : TypeId) (v : Value) (l : List UInt8) : Prop where
  own : wr.ownsRow w0.heap.size T 1 v (byV l).length (byV l)
  below : Below w0.heap.size w0 wr
theorem Txt.nil (w0 : World) (T : TypeId) : Txt w0 w0 T (.slice none 0 0) [] := ⟨World.ownsRow_nil w0 _ T 1, Below.refl _ _⟩
theorem Txt.kept {w0 wr w' : World} {T : TypeId} {v : Value} {l : List UInt8} (h : Txt w0 wr T v l) (hb : Below wr.heap.size wr w') : Txt w0 w' T v l :=
  ⟨ownsRow_kept h.own hb, h.below.trans (hb.mono h.below.size)⟩
theorem Txt.size {w0 wr : World} {T : TypeId} {v : Value} {l : List UInt8} (h : Txt w0 wr T v l) : w0.heap.size ≤ wr.heap.size := h.below.size
theorem Txt.shape {w0 wr : World} {T : TypeId} {v : Value} {l : List UInt8} (h : Txt w0 wr T v l) (hl : 0 < l.length) :
    ∃ g cap, v = .slice (some ⟨g, 0, none⟩) l.length cap ∧ ∀ j (hj : j < l.length), wr.cell? ((⟨g, 0, none⟩ : Addr).add j) = some (.int .u8 (l[j].toNat : Int)) := by
  have h' := h.own
  rcases h.own.2 with ⟨_, hn⟩ | ⟨g, cap, cur, rfl, hbg, hgg, _⟩
  · rw [byV_length] at hn; omega
  · refine ⟨g, cap, by rw [byV_length], fun k hk => ?_⟩
    exact h'.cells (g := g) rfl k _ (by simp [byV, hk])

theorem Try.infoByteP : (Try.prog.info? 5).map (fun i => (i.zero, i.size, i.bytes)) = some (some (.int .u8 0), 1, 1) := by kernel_rfl

/-- 'text = append(text, b)' -/
theorem wpList_pushY {P : Program} {wr : World} {ops : Array Oper} {rest : List Oper} {o : Oper} {a : Act} {Q : Exit → Act → World → Prop} (hgd : o.guard = none) (s x : Operand) (t : TypeId)
    (ho : o.op = .call { callee := .builtin .append, args := #[s, x], argTypes := #[t, t] })
    (w0 : World) (T : TypeId) (ht : P.underlying t = some (.slice T)) (hinfo : (P.info? T).map (fun i => (i.zero, i.size, i.bytes)) = some (some (.int .u8 0), 1, 1))
    (v : Value) (l : List UInt8) (b : UInt8) (n : Int) (hn : n = ((b.toNat : Nat) : Int)) (hs : a.eval s = v) (hx : a.eval x = .slice (some ⟨wr.heap.size, 0, none⟩) 1 1)
    (hT : Txt w0 wr T v l) (hlen : l.length ≤ 1000000)
    (h : ∀ v' w', Txt w0 w' T v' (l ++ [b]) → (∀ k, k < wr.heap.size → v.ownBlock ≠ some k → w'.heap[k]? = wr.heap[k]?) → wpList P ops Q rest (a.put o.dst v') w') :
    wpList P ops Q (o :: rest) a (wr.alloc (.cells #[.int .u8 n] T)) := by
  subst hn
  refine wpList_pushG hgd s x t ho w0.heap.size T (.int .u8 0) 1 ht hinfo rfl v (byV l) (.int .u8 ((b.toNat : Nat) : Int)) rfl hs hx hT.own ?_ ?_ hT.below.size ?_
  · rw [byV_length]; omega
  · rw [byV_length]; unfold maxLen; omega
  · intro v' w' h1 h2
    refine h v' w' ⟨?_, h2.below hT.below hT.below.size hT.own⟩ (fun k hk hne => h2.block hk hne)
    have e : byV l ++ [.int .u8 ((b.toNat : Nat) : Int)] = byV (l ++ [b]) := byV_append l [b]
    rw [e] at h1
    exact h1

/-- 'text = append(text, s...)' -/
theorem wpList_pushT {P : Program} {wr : World} {ops : Array Oper} {rest : List Oper} {o : Oper} {a : Act} {Q : Exit → Act → World → Prop} (hgd : o.guard = none) (s x : Operand) (t u : TypeId)
    (ho : o.op = .call { callee := .builtin .append, args := #[s, x], argTypes := #[t, u] })
    (w0 : World) (T : TypeId) (ht : P.underlying t = some (.slice T)) (hu : P.underlying u = some .string) (hinfo : (P.info? T).map (fun i => (i.zero, i.size, i.bytes)) = some (some (.int .u8 0), 1, 1))
    (v : Value) (l : List UInt8) (b : ByteArray) (hs : a.eval s = v) (hx : a.eval x = .string b)
    (hT : Txt w0 wr T v l) (hlen : l.length + b.size ≤ 1000000)
    (h : ∀ v' w', Txt w0 w' T v' (l ++ b.data.toList) → (∀ k, k < wr.heap.size → v.ownBlock ≠ some k → w'.heap[k]? = wr.heap[k]?) → wpList P ops Q rest (a.put o.dst v') w') :
    wpList P ops Q (o :: rest) a wr := by
  obtain ⟨i0, hi, hz0, hz1, hz2⟩ := info_parts hinfo
  refine Lib.wpList_append_own_string wr hgd s x t u ho w0.heap.size T i0 ht hu hi hz0 hz1 hz2 v (byV l).length (byV l) hs hT.own b hx ?_ ?_ hT.below.size ?_
  · rw [byV_length]; unfold maxLen; omega
  · rw [byV_length]; omega
  · intro v' w' h1 h2 _
    refine h v' w' ⟨?_, hT.below.grown h2 hT.below.size (fun k hk => (hT.own.lt k hk).1)⟩ (fun k hk hne => h2.block k hk fun e => hne e.symm)
    have e : byV l ++ Lib.strCells b = byV (l ++ b.data.toList) := byV_append l b.data.toList
    rw [e] at h1
    have e2 : (byV l).length + b.size = (byV (l ++ b.data.toList)).length := by rw [byV_length, byV_length, List.length_append]; simp
    rw [e2] at h1
    exact h1

theorem by_data (l : List UInt8) : (⟨l.toArray⟩ : ByteArray).data.toList = l := by simp
theorem by_size (l : List UInt8) : (⟨l.toArray⟩ : ByteArray).size = l.length := by show l.toArray.size = _; simp
theorem headL_len (k : Nat) : (headL k).length = 3 := rfl

set_option maxRecDepth 100000 in
set_option maxHeartbeats 1600000 in
theorem printTest_any (nv : ByteArray) (cv wv : Value) (code : List (List Q4)) (want : List Q4) (lo hi : Nat) (w : World) (hC : Rd44 lo hi w cv code) (hW : Rd4 lo hi w wv want) (hhi : hi ≤ w.heap.size)
    (hS : sndT nv.data.toList code want = true) :
    Calls Try.prog 21 #[.agg #[.string nv, cv, wv]] w fun r w' => r = .returned (.string ⟨(printL nv.data.toList code want).toArray⟩) ∧ Below w.heap.size w w' := by
  obtain ⟨ca, cc, rfl, hC⟩ := hC
  obtain ⟨wa, wc, rfl, hW⟩ := hW
  have HC : Hid _ := hC
  have HW : Hid _ := hW
  have HPART : Hid _ := sndT_parts hS
  have HNS : Hid (nv.size ≤ 63) := by
    show _ ≤ _
    unfold sndT at hS
    simp only [Bool.and_eq_true, decide_eq_true_eq] at hS
    have := hS.1.1.1.1.1.1
    simpa using this
  have HROW : Hid (∀ k : Nat, (code[k]?.getD []).length ≤ 32) := fun k => by
    by_cases hk : k < code.length
    · exact (sndRow_parts (HPART.out.2.2.2.1 _ (getD_mem [] hk))).2.1
    · rw [List.getElem?_eq_none (by omega)]; simp
  have HCL : Hid (∀ k, (codeL code k).length ≤ 196 * k) := codeL_len code HROW.out
  have HTL : Hid ((titleL nv.data.toList).length ≤ 71) := by
    show _ ≤ _
    have := HNS.out
    simp only [titleL, List.length_append, List.length_cons, List.length_nil]
    have e : nv.data.toList.length = nv.size := by simp
    omega
  have hcn : code.length ≤ 16 := HPART.out.2.1
  have hwn : want.length ≤ 32 := HPART.out.2.2.1
  obtain ⟨w0, hw0⟩ : ∃ w0, w.alloc (.cells #[.string nv, .slice ca code.length cc, .slice wa want.length wc] 29) = w0 := ⟨_, rfl⟩
  have HB0 : Hid (Below w.heap.size w w0) := by show Below _ _ _; rw [← hw0]; exact (Below.refl _ _).alloc (Nat.le_refl _) _
  have hsz0 : w0.heap.size = w.heap.size + 1 := by rw [← hw0]; simp
  have t0 : w0.cell? ⟨w.heap.size, 0, none⟩ = some (.string nv) := by rw [← hw0]; simp
  have t1 : w0.cell? ⟨w.heap.size, 1, none⟩ = some (.slice ca code.length cc) := by rw [← hw0]; simp
  have t2 : w0.cell? ⟨w.heap.size, 2, none⟩ = some (.slice wa want.length wc) := by rw [← hw0]; simp
  have HW0 : Hid _ := hw0
  have hlt0 : w.heap.size < w0.heap.size := by omega
  have HNV : Hid (nv.data.toList.length = nv.size) := by show _ = _; simp
  clear hC hW hS hw0 hsz0
  go_enter Try.func21, Try.ntmps21
  have HT0 : Hid (Txt w0 (w.alloc (.cells #[.string nv, .slice ca code.length cc, .slice wa want.length wc] 29)) 5 (.slice none 0 0) []) := by
    show Txt _ _ _ _ _
    rw [HW0.out]
    exact Txt.nil _ _
  clear HW0
  go_wp2_with (first | (at_builtin; refine wpList_pushT rfl _ _ 88 9 rfl w0 5 Try.underlying88 Try.underlying9 Try.infoByteP _ [] ⟨#[108, 105, 116, 109, 117, 115, 32]⟩ (by rfl) (by rfl) HT0.out (by decide) ?_; intro v1 w1 h1 _; have s0 : w1.cell? ⟨w.heap.size, 0, none⟩ = some (.string nv) := (h1.below.cell (p := ⟨w.heap.size, 0, none⟩) hlt0).trans t0; have HT1 : Hid (Txt w0 w1 5 v1 [108, 105, 116, 109, 117, 115, 32]) := h1; clear HT0 h1) | (at_builtin; refine wpList_pushT rfl _ _ 88 9 rfl w0 5 Try.underlying88 Try.underlying9 Try.infoByteP _ [108, 105, 116, 109, 117, 115, 32] nv (by rfl) (by rfl) HT1.out (show 7 + nv.size ≤ 1000000 by have := HNS.out; omega) ?_; intro v2 w2 h2 _; have HT2 : Hid (Txt w0 w2 5 v2 ([108, 105, 116, 109, 117, 115, 32] ++ nv.data.toList)) := h2; clear HT1 h2 s0) | (at_builtin; refine wpList_pushY rfl _ _ 88 rfl w0 5 Try.underlying88 Try.infoByteP _ _ 10 10 rfl (by rfl) (by rfl) HT2.out (show ([108, 105, 116, 109, 117, 115, 32] ++ nv.data.toList).length ≤ 1000000 by have := HNS.out; have := HNV.out; simp only [List.length_append, List.length_cons, List.length_nil]; omega) ?_; intro v3 w3 h3 _; have HT3 : Hid (Txt w0 w3 5 v3 (titleL nv.data.toList)) := h3; have s1 : w3.cell? ⟨w.heap.size, 1, none⟩ = some (.slice ca code.length cc) := (h3.below.cell (p := ⟨w.heap.size, 1, none⟩) hlt0).trans t1; clear HT2 h3))
  go_loopw [3, 22] (fun v i wr => ∃ k : Nat, k ≤ code.length ∧ i = .int .i64 k ∧ Txt w0 wr 5 v (titleL nv.data.toList ++ codeL code k)) (fun _ i _ => code.length - (intOf i).toNat)
  case atStart => exact ⟨0, Nat.zero_le _, rfl, by rw [show codeL code 0 = [] from rfl, List.append_nil]; exact HT3.out⟩
  case round =>
    obtain ⟨k, hk, rfl, hT⟩ := hrel
    have HT : Hid (Txt w0 wr 5 _ (titleL nv.data.toList ++ codeL code k)) := hT
    have hlw := hT.size
    clear hT
    have HPL : Hid ((titleL nv.data.toList ++ codeL code k).length ≤ 4000) := by
      show _ ≤ _
      rw [List.length_append]
      have := HTL.out
      have := HCL.out k
      omega
    by_cases hlt : k < code.length
    · obtain ⟨cb, co, vk, rfl, hcl, hch, hcell, hrow⟩ := HC.out k hlt
      obtain ⟨ra, rc, rfl, hrow⟩ := hrow
      have HBW : Hid (Below w.heap.size w wr) := HB0.out.trans (HT.out.below.mono HB0.out.size)
      have hck := (HBW.out.cell (p := ⟨cb, co + k, none⟩) (show cb < w.heap.size by omega)).trans hcell
      have HR : Hid _ := hrow
      have hr32 := HROW.out k
      have HCS : Hid (codeL code (k + 1) = codeL code k ++ (headL k ++ rowL (code[k]?.getD []) (code[k]?.getD []).length ++ [10])) := rfl
      have HRS : Hid _ := (sndRow_parts (HPART.out.2.2.2.1 _ (getD_mem [] hlt))).2.2
      have hk16 : k < 16 := by omega
      have HTH : Hid _ := fun wx => threadHead_any k hk16 wx
      clear hrow hcell
      generalize code[k]?.getD [] = row at *
      obtain ⟨rn, hrn⟩ : ∃ n, row.length = n := ⟨_, rfl⟩
      rw [hrn] at hck hr32 HR HCS
      have HRN : Hid _ := hrn
      clear hrn
      have HX : Hid (titleL nv.data.toList ++ codeL code (k + 1) = titleL nv.data.toList ++ codeL code k ++ headL k ++ rowL row rn ++ [10]) := by
        show _ = _
        rw [HCS.out]
        simp only [List.append_assoc]
      clear HCS
      generalize titleL nv.data.toList ++ codeL code k = pre at *
      go_wp2_with (first | (go_at_call 44; refine Calls.mono (HTH.out _) ?_; rintro r w4 ⟨rfl, hb4⟩; have HT4 : Hid (Txt w0 w4 5 _ pre) := HT.out.kept hb4; clear hb4 hck) | (at_builtin; refine wpList_pushT rfl _ _ 88 9 rfl w0 5 Try.underlying88 Try.underlying9 Try.infoByteP _ _ ⟨(headL k).toArray⟩ (by rfl) (by rfl) HT4.out (show pre.length + (⟨(headL k).toArray⟩ : ByteArray).size ≤ 1000000 by rw [by_size, headL_len]; have := HPL.out; omega) ?_; intro v5 w5 h5 _; have HT5 : Hid (Txt w0 w5 5 v5 (pre ++ headL k)) := (by have h5' := h5; rw [by_data] at h5'; exact h5'); clear HT4 h5))
      go_loopw [3, 33] (fun v i wr2 => ∃ j : Nat, j ≤ rn ∧ i = .int .i64 j ∧ Txt w0 wr2 5 v (pre ++ headL k ++ rowL row j)) (fun _ i _ => rn - (intOf i).toNat)
      case atStart => exact ⟨0, Nat.zero_le _, rfl, by rw [show rowL row 0 = [] from rfl, List.append_nil]; exact HT5.out⟩
      case round =>
        obtain ⟨j, hj, rfl, hT6⟩ := hrel
        have HT6 : Hid (Txt w0 wr 5 _ (pre ++ headL k ++ rowL row j)) := hT6
        have HL6 : Hid ((pre ++ headL k ++ rowL row j).length ≤ 4400) := by
          show _ ≤ _
          have := HPL.out
          have := rowL_len row j
          rw [List.length_append, List.length_append, headL_len]
          omega
        have hsz6 := hT6.size
        have HO6 : Hid (∀ b, u3.ownBlock = some b → b < wr.heap.size) := fun b hb => (hT6.own.lt b hb).2
        clear hT6
        by_cases hjl : j < rn
        · obtain ⟨rb, ro, rfl, hrlo, hrhi, hat⟩ := HR.out j hjl
          have HBW6 : Hid (Below w.heap.size w wr) := HB0.out.trans (HT6.out.below.mono HB0.out.size)
          have x0 := (HBW6.out.cell (p := ⟨rb, ro + j * 4, none⟩) (show rb < w.heap.size by omega)).trans hat.f0
          have x1 := (HBW6.out.cell (p := ⟨rb, ro + j * 4 + 1, none⟩) (show rb < w.heap.size by omega)).trans hat.f1
          have x2 := (HBW6.out.cell (p := ⟨rb, ro + j * 4 + 2, none⟩) (show rb < w.heap.size by omega)).trans hat.f2
          have x3 := (HBW6.out.cell (p := ⟨rb, ro + j * 4 + 3, none⟩) (show rb < w.heap.size by omega)).trans hat.f3
          have HRJ : Hid (rowL row (j + 1) = rowL row j ++ 32 :: wordL (row[j]?.getD q0)) := rfl
          have HSI : Hid (sndI (row[j]?.getD q0) = true) := HRS.out _ (getD_mem q0 (by have := HRN.out; omega))
          have HWL : Hid ((wordL (row[j]?.getD q0)).length ≤ 5) := wordL_len _
          have HIW : Hid _ := fun wx => insWord_any (row[j]?.getD q0) HSI.out wx
          clear hat
          generalize row[j]?.getD q0 = x at *
          have HTA : Hid _ := fun o => HT6.out.kept ((Below.refl wr.heap.size wr).alloc (Nat.le_refl _) o)
          go_wp2_with (first | (at_builtin; refine wpList_pushY rfl _ _ 88 rfl w0 5 Try.underlying88 Try.infoByteP _ _ 32 32 rfl (by rfl) (by simp [Act.eval]) (HTA.out _) (show (pre ++ headL k ++ rowL row j).length ≤ 1000000 by have := HL6.out; omega) ?_; intro v7 w7 h7 g7; have hb7 : w7.heap[wr.heap.size]? = (wr.alloc (.cells #[.int .i64 x.a, .int .i64 x.b, .int .i64 x.c, .int .i64 x.d] 55)).heap[wr.heap.size]? := g7 wr.heap.size (by simp) (fun e => absurd (HO6.out _ e) (Nat.lt_irrefl _)); have y0 : w7.cell? ⟨wr.heap.size, 0, none⟩ = some (.int .i64 x.a) := (World.cell?_of_block (a := ⟨wr.heap.size, 0, none⟩) hb7).trans (by simp); have y1 : w7.cell? ⟨wr.heap.size, 1, none⟩ = some (.int .i64 x.b) := (World.cell?_of_block (a := ⟨wr.heap.size, 1, none⟩) hb7).trans (by simp); have y2 : w7.cell? ⟨wr.heap.size, 2, none⟩ = some (.int .i64 x.c) := (World.cell?_of_block (a := ⟨wr.heap.size, 2, none⟩) hb7).trans (by simp); have y3 : w7.cell? ⟨wr.heap.size, 3, none⟩ = some (.int .i64 x.d) := (World.cell?_of_block (a := ⟨wr.heap.size, 3, none⟩) hb7).trans (by simp); have HT7 : Hid (Txt w0 w7 5 v7 (pre ++ headL k ++ rowL row j ++ [32])) := h7; clear h7 g7 hb7 HTA x0 x1 x2 x3) | (go_at_call 45; refine Calls.mono (HIW.out _) ?_; rintro r w8 ⟨rfl, hb8⟩; have HT8 : Hid (Txt w0 w8 5 _ (pre ++ headL k ++ rowL row j ++ [32])) := HT7.out.kept hb8; clear hb8 HT7 y0 y1 y2 y3) | (at_builtin; refine wpList_pushT rfl _ _ 88 9 rfl w0 5 Try.underlying88 Try.underlying9 Try.infoByteP _ _ ⟨(wordL x).toArray⟩ (by rfl) (by rfl) HT8.out (show (pre ++ headL k ++ rowL row j ++ [32]).length + (⟨(wordL x).toArray⟩ : ByteArray).size ≤ 1000000 by rw [by_size, List.length_append]; have := HL6.out; have := HWL.out; simp only [List.length_cons, List.length_nil]; omega) ?_; intro v9 w9 h9 _; have HT9 : Hid (Txt w0 w9 5 v9 (pre ++ headL k ++ rowL row j ++ [32] ++ wordL x)) := (by have h9' := h9; rw [by_data] at h9'; exact h9'); clear HT8 h9))
          go_roundw
          case rel => exact ⟨j + 1, by omega, by go_num, by rw [HRJ.out]; have e := HT9.out; simp only [List.append_assoc, List.singleton_append] at e ⊢; exact e⟩
          case measure => simp [intOf]; omega
        · have HJE : Hid (j = rn) := by show _ = _; omega
          go_wp2_with (at_builtin; refine wpList_pushY rfl _ _ 88 rfl w0 5 Try.underlying88 Try.infoByteP _ _ 10 10 rfl (by rfl) (by rfl) HT6.out (show (pre ++ headL k ++ rowL row j).length ≤ 1000000 by have := HL6.out; omega) ?_; intro v7 w7 h7 _; have HT7 : Hid (Txt w0 w7 5 v7 (pre ++ headL k ++ rowL row j ++ [10])) := h7; clear h7 HT6)
          go_roundw
          case rel => exact ⟨k + 1, by omega, by go_num, by rw [HX.out, ← HJE.out]; exact HT7.out⟩
          case measure => simp [intOf]; omega
    · have HKE : Hid (k = code.length) := by show _ = _; omega
      have HQ : Hid (titleL nv.data.toList ++ codeL code k = titleL nv.data.toList ++ codeL code code.length) := by show _ = _; rw [HKE.out]
      have s2 : ∀ w', Below w0.heap.size w0 w' → w'.cell? ⟨w.heap.size, 2, none⟩ = some (.slice wa want.length wc) := fun w' hb => (hb.cell (p := ⟨w.heap.size, 2, none⟩) hlt0).trans t2
      have HS2 : Hid _ := s2
      have HSK : Hid (∀ x ∈ want, sndK code.length x = true) := HPART.out.2.2.2.2
      have HPR : Hid (printL nv.data.toList code want = titleL nv.data.toList ++ codeL code code.length ++ [119, 97, 110, 116] ++ wantL want want.length ++ [10]) := rfl
      clear s2
      rw [HQ.out] at HT HPL
      obtain ⟨wn, hwn'⟩ : ∃ n, want.length = n := ⟨_, rfl⟩
      have HWN : Hid _ := hwn'
      rw [hwn'] at HW HS2 hwn HPR
      clear hwn' HQ
      generalize titleL nv.data.toList ++ codeL code code.length = pre at *
      go_wp2_with (at_builtin; refine wpList_pushT rfl _ _ 88 9 rfl w0 5 Try.underlying88 Try.underlying9 Try.infoByteP _ _ ⟨#[119, 97, 110, 116]⟩ (by rfl) (by rfl) HT.out (show pre.length + 4 ≤ 1000000 by have := HPL.out; omega) ?_; intro v5 w5 h5 _; have HT5 : Hid (Txt w0 w5 5 v5 (pre ++ [119, 97, 110, 116])) := h5; have z2 := HS2.out w5 h5.below; have hz5 : w.heap.size < w5.heap.size := Nat.lt_of_lt_of_le hlt0 h5.size; clear HT h5)
      go_loopw [3, 54] (fun v i wr2 => ∃ j : Nat, j ≤ wn ∧ i = .int .i64 j ∧ Txt w0 wr2 5 v (pre ++ [119, 97, 110, 116] ++ wantL want j)) (fun _ i _ => wn - (intOf i).toNat)
      case atStart => exact ⟨0, Nat.zero_le _, rfl, by rw [show wantL want 0 = [] from rfl, List.append_nil]; exact HT5.out⟩
      case round =>
        obtain ⟨j, hj, rfl, hT6⟩ := hrel
        have HT6 : Hid (Txt w0 wr 5 _ (pre ++ [119, 97, 110, 116] ++ wantL want j)) := hT6
        have HL6 : Hid ((pre ++ [119, 97, 110, 116] ++ wantL want j).length ≤ 4400) := by
          show _ ≤ _
          have := HPL.out
          have := wantL_len want j
          rw [List.length_append, List.length_append]
          simp only [List.length_cons, List.length_nil]
          omega
        have hsz6 := hT6.size
        have HO6 : Hid (∀ b, u3.ownBlock = some b → b < wr.heap.size) := fun b hb => (hT6.own.lt b hb).2
        by_cases hjl : j < wn
        · clear hT6
          obtain ⟨rb, ro, rfl, hrlo, hrhi, hat⟩ := HW.out j hjl
          have HBW6 : Hid (Below w.heap.size w wr) := HB0.out.trans (HT6.out.below.mono HB0.out.size)
          have x0 := (HBW6.out.cell (p := ⟨rb, ro + j * 4, none⟩) (show rb < w.heap.size by omega)).trans hat.f0
          have x1 := (HBW6.out.cell (p := ⟨rb, ro + j * 4 + 1, none⟩) (show rb < w.heap.size by omega)).trans hat.f1
          have x2 := (HBW6.out.cell (p := ⟨rb, ro + j * 4 + 2, none⟩) (show rb < w.heap.size by omega)).trans hat.f2
          have x3 := (HBW6.out.cell (p := ⟨rb, ro + j * 4 + 3, none⟩) (show rb < w.heap.size by omega)).trans hat.f3
          have HRJ : Hid (wantL want (j + 1) = wantL want j ++ 32 :: wishL (want[j]?.getD q0)) := rfl
          have HSI : Hid (sndK code.length (want[j]?.getD q0) = true) := HSK.out _ (getD_mem q0 (by have := HWN.out; omega))
          have HWL : Hid ((wishL (want[j]?.getD q0)).length ≤ 6) := wishL_len _
          have HIW : Hid _ := fun wx => claimWord_any (want[j]?.getD q0) code.length hcn HSI.out wx
          clear hat
          generalize want[j]?.getD q0 = x at *
          have HTA : Hid _ := fun o => HT6.out.kept ((Below.refl wr.heap.size wr).alloc (Nat.le_refl _) o)
          go_wp2_with (first | (at_builtin; refine wpList_pushY rfl _ _ 88 rfl w0 5 Try.underlying88 Try.infoByteP _ _ 32 32 rfl (by rfl) (by simp [Act.eval]) (HTA.out _) (show (pre ++ [119, 97, 110, 116] ++ wantL want j).length ≤ 1000000 by have := HL6.out; omega) ?_; intro v7 w7 h7 g7; have hb7 : w7.heap[wr.heap.size]? = (wr.alloc (.cells #[.int .i64 x.a, .int .i64 x.b, .int .i64 x.c, .int .i64 x.d] 58)).heap[wr.heap.size]? := g7 wr.heap.size (by simp) (fun e => absurd (HO6.out _ e) (Nat.lt_irrefl _)); have y0 : w7.cell? ⟨wr.heap.size, 0, none⟩ = some (.int .i64 x.a) := (World.cell?_of_block (a := ⟨wr.heap.size, 0, none⟩) hb7).trans (by simp); have y1 : w7.cell? ⟨wr.heap.size, 1, none⟩ = some (.int .i64 x.b) := (World.cell?_of_block (a := ⟨wr.heap.size, 1, none⟩) hb7).trans (by simp); have y2 : w7.cell? ⟨wr.heap.size, 2, none⟩ = some (.int .i64 x.c) := (World.cell?_of_block (a := ⟨wr.heap.size, 2, none⟩) hb7).trans (by simp); have y3 : w7.cell? ⟨wr.heap.size, 3, none⟩ = some (.int .i64 x.d) := (World.cell?_of_block (a := ⟨wr.heap.size, 3, none⟩) hb7).trans (by simp); have HT7 : Hid (Txt w0 w7 5 v7 (pre ++ [119, 97, 110, 116] ++ wantL want j ++ [32])) := h7; clear h7 g7 hb7 HTA x0 x1 x2 x3) | (go_at_call 46; refine Calls.mono (HIW.out _) ?_; rintro r w8 ⟨rfl, hb8⟩; have HT8 : Hid (Txt w0 w8 5 _ (pre ++ [119, 97, 110, 116] ++ wantL want j ++ [32])) := HT7.out.kept hb8; clear hb8 HT7 y0 y1 y2 y3) | (at_builtin; refine wpList_pushT rfl _ _ 88 9 rfl w0 5 Try.underlying88 Try.underlying9 Try.infoByteP _ _ ⟨(wishL x).toArray⟩ (by rfl) (by rfl) HT8.out (show (pre ++ [119, 97, 110, 116] ++ wantL want j ++ [32]).length + (⟨(wishL x).toArray⟩ : ByteArray).size ≤ 1000000 by rw [by_size, List.length_append]; have := HL6.out; have := HWL.out; simp only [List.length_cons, List.length_nil]; omega) ?_; intro v9 w9 h9 _; have HT9 : Hid (Txt w0 w9 5 v9 (pre ++ [119, 97, 110, 116] ++ wantL want j ++ [32] ++ wishL x)) := (by have h9' := h9; rw [by_data] at h9'; exact h9'); clear HT8 h9))
          go_roundw
          case rel => exact ⟨j + 1, by omega, by go_num, by rw [HRJ.out]; have e := HT9.out; simp only [List.append_assoc, List.singleton_append] at e ⊢; exact e⟩
          case measure => simp [intOf]; omega
        · have HJE : Hid (j = wn) := by show _ = _; omega
          clear hT6
          go_wp2_with (at_builtin; refine wpList_pushY rfl _ _ 88 rfl w0 5 Try.underlying88 Try.infoByteP _ _ 10 10 rfl (by rfl) (by rfl) HT6.out (show (pre ++ [119, 97, 110, 116] ++ wantL want j).length ≤ 1000000 by have := HL6.out; omega) ?_; intro v7 w7 h7 _; have hps : 0 < (pre ++ [119, 97, 110, 116] ++ wantL want j ++ [10]).length := (by rw [List.length_append]; exact Nat.lt_of_lt_of_le Nat.zero_lt_one (Nat.le_add_left _ _)); obtain ⟨full, hful⟩ : ∃ f, pre ++ [119, 97, 110, 116] ++ wantL want j ++ [10] = f := ⟨_, rfl⟩; rw [hful] at h7 hps; have HFU : Hid _ := hful; obtain ⟨g, gc, hv, hG⟩ := h7.shape hps; have hcv := run_convert_bytes_back (P := Try.prog) w7 88 9 5 ⟨g, 0, none⟩ gc _ Try.underlying88 Try.underlying5 Try.underlying9 hG; have HB7 : Hid (Below w0.heap.size w0 w7) := h7.below; subst hv; clear h7 hG HT6 hful hps)
          go_ret
          exact ⟨by rw [HPR.out, ← HJE.out, HFU.out]; rfl, HB0.out.trans (HB7.out.mono HB0.out.size)⟩

end Go.Proofs.Ytokfiflflcfidaa
