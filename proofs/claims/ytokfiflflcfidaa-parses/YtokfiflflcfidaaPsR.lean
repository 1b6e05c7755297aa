import Derived.Test.YtokfiflflcfidaaPsN
namespace Go.Proofs.Ytokfiflflcfidaa
open Go.RowKit

/-- the texts xs, each ended by c -/
def ends (c : UInt8) : List (List UInt8) → List UInt8
  | [] => []
  | x :: xs => x ++ c :: ends c xs
/-- the texts xs, each behind c -/
def opens (c : UInt8) : List (List UInt8) → List UInt8
  | [] => []
  | x :: xs => c :: (x ++ opens c xs)
def stp (c : UInt8) (p : List (List UInt8) × List UInt8) (x : UInt8) : List (List UInt8) × List UInt8 := if x = c then (p.1 ++ [p.2], []) else (p.1, p.2 ++ [x])
theorem spT_stp (c : UInt8) (s : List UInt8) : spT c s = s.foldl (stp c) ([], []) := rfl
theorem stp_none {c : UInt8} {t : List UInt8} (h : c ∉ t) (p : List (List UInt8) × List UInt8) : t.foldl (stp c) p = (p.1, p.2 ++ t) := by
  induction t generalizing p with
  | nil => simp
  | cons y ys ih =>
    have hy : ¬ y = c := fun e => h (by rw [e]; exact List.mem_cons_self ..)
    rw [List.foldl_cons, ih (fun e => h (List.mem_cons_of_mem _ e))]
    simp [stp, hy]
theorem stp_ends {c : UInt8} {xs : List (List UInt8)} (h : ∀ x ∈ xs, c ∉ x) (q : List (List UInt8)) : (ends c xs).foldl (stp c) (q, []) = (q ++ xs, []) := by
  induction xs generalizing q with
  | nil => simp [ends]
  | cons x xs ih =>
    rw [ends, List.foldl_append, stp_none (h x (List.mem_cons_self ..)), List.foldl_cons]
    rw [show stp c ((q, ([] : List UInt8)).1, (q, ([] : List UInt8)).2 ++ x) c = (q ++ [x], []) by simp [stp]]
    rw [ih (fun y hy => h y (List.mem_cons_of_mem _ hy))]
    simp
theorem stp_opens {c : UInt8} {xs : List (List UInt8)} (h : ∀ x ∈ xs, c ∉ x) (q : List (List UInt8)) (a : List UInt8) : ((opens c xs).foldl (stp c) (q, a)).1 ++ [((opens c xs).foldl (stp c) (q, a)).2] = q ++ a :: xs := by
  induction xs generalizing q a with
  | nil => simp [opens]
  | cons x xs ih =>
    rw [opens, List.foldl_cons, List.foldl_append]
    rw [show stp c (q, a) c = (q ++ [a], []) by simp [stp]]
    rw [stp_none (h x (List.mem_cons_self ..)), ih (fun y hy => h y (List.mem_cons_of_mem _ hy))]
    simp
theorem spS_ends {c : UInt8} {xs : List (List UInt8)} (h : ∀ x ∈ xs, c ∉ x) : spS c (ends c xs) = xs ++ [[]] := by
  unfold spS
  rw [spT_stp, stp_ends h]
  simp
theorem spS_opens {c : UInt8} {xs : List (List UInt8)} {a : List UInt8} (ha : c ∉ a) (h : ∀ x ∈ xs, c ∉ x) : spS c (a ++ opens c xs) = a :: xs := by
  unfold spS
  rw [spT_stp, List.foldl_append, stp_none ha, stp_opens h]
  simp
theorem ends_append (c : UInt8) (xs ys : List (List UInt8)) : ends c (xs ++ ys) = ends c xs ++ ends c ys := by
  induction xs with
  | nil => rfl
  | cons x xs ih => simp [ends, ih]
theorem opens_append (c : UInt8) (xs ys : List (List UInt8)) : opens c (xs ++ ys) = opens c xs ++ opens c ys := by
  induction xs with
  | nil => rfl
  | cons x xs ih => simp [opens, ih]

theorem rowL_opens (row : List Q4) (j : Nat) (hj : j ≤ row.length) : rowL row j = opens 32 ((row.take j).map wordL) := by
  induction j with
  | zero => simp [rowL, opens]
  | succ j ih =>
    rw [rowL, ih (by omega), take_snocQ row j (by omega), List.map_append, opens_append]
    simp [opens]
theorem wantL_opens (row : List Q4) (j : Nat) (hj : j ≤ row.length) : wantL row j = opens 32 ((row.take j).map wishL) := by
  induction j with
  | zero => simp [wantL, opens]
  | succ j ih =>
    rw [wantL, ih (by omega), take_snocQ row j (by omega), List.map_append, opens_append]
    simp [opens]
/-- a thread's line, unended -/
def lnL (k : Nat) (row : List Q4) : List UInt8 := headL k ++ opens 32 (row.map wordL)
def lnW (want : List Q4) : List UInt8 := wnH ++ opens 32 (want.map wishL)
def lns (code : List (List Q4)) (k : Nat) : List (List UInt8) := (List.range k).map fun i => lnL i (code[i]?.getD [])
theorem lns_succ (code : List (List Q4)) (k : Nat) : lns code (k + 1) = lns code k ++ [lnL k (code[k]?.getD [])] := by
  unfold lns
  rw [List.range_succ, List.map_append]
  rfl
theorem codeL_ends (code : List (List Q4)) (k : Nat) : codeL code k = ends 10 (lns code k) := by
  induction k with
  | zero => rfl
  | succ k ih =>
    rw [codeL, ih, lns_succ, ends_append, lineL, rowL_opens _ _ (Nat.le_refl _), List.take_length]
    simp [ends, lnL]
/-- a test's lines -/
def linesL (nm : List UInt8) (code : List (List Q4)) (want : List Q4) : List (List UInt8) := (nmH ++ nm) :: (lns code code.length ++ [lnW want])
theorem printL_ends (nm : List UInt8) (code : List (List Q4)) (want : List Q4) : printL nm code want = ends 10 (linesL nm code want) := by
  unfold printL titleL linesL
  rw [ends, ends_append, codeL_ends, wantL_opens _ _ (Nat.le_refl _), List.take_length]
  simp [ends, lnW, nmH, wnH]

theorem dg_all : ∀ k : Fin 16, dgN k.val ≠ 10 ∧ dgN k.val ≠ 32 ∧ ltN k.val ≠ 10 ∧ ltN k.val ≠ 32 ∧ numL nbrS (dgN k.val) = (k.val : Int) ∧ numL celS (ltN k.val) = (k.val : Int) := by decide
theorem dg_val : ∀ k : Fin 10, numL valS (dgN k.val) = (k.val : Int) := by decide
theorem dgN_of {k : Nat} (h : k < 16) : dgN k ≠ 10 ∧ dgN k ≠ 32 ∧ ltN k ≠ 10 ∧ ltN k ≠ 32 ∧ numL nbrS (dgN k) = (k : Int) ∧ numL celS (ltN k) = (k : Int) := dg_all ⟨k, h⟩
theorem dgV_of {k : Nat} (h : k < 10) : numL valS (dgN k) = (k : Int) := dg_val ⟨k, h⟩
theorem nat_of {x : Int} {n : Nat} (h0 : 0 ≤ x) (h : x < (n : Int)) : ∃ k : Nat, k < n ∧ x = (k : Int) := ⟨x.toNat, by omega, by omega⟩

theorem word_back {x : Q4} (h : sndI x = true) : insB (wordL x) = true ∧ insR (wordL x) = x ∧ 10 ∉ wordL x ∧ 32 ∉ wordL x := by
  obtain ⟨a, b, c, d⟩ := x
  unfold sndI at h
  simp only [Bool.and_eq_true, Bool.or_eq_true, decide_eq_true_eq, beq_iff_eq] at h
  obtain ⟨⟨hb0, hb1, hc0, hc1, hd0, hd1⟩, h⟩ := h
  obtain ⟨b, hb, rfl⟩ := nat_of (n := 16) hb0 hb1
  obtain ⟨c, hc, rfl⟩ := nat_of (n := 16) hc0 hc1
  obtain ⟨d, hd, rfl⟩ := nat_of (n := 10) hd0 (by omega)
  obtain ⟨b1, b2, b3, b4, b5, b6⟩ := dgN_of hb
  obtain ⟨c1, c2, c3, c4, c5, c6⟩ := dgN_of hc
  obtain ⟨d1, d2, _⟩ := dgN_of (show d < 16 by omega)
  have d7 := dgV_of hd
  rcases h with (⟨rfl, h⟩ | ⟨rfl, h⟩) | ⟨⟨⟨rfl, h1⟩, h2⟩, h3⟩
  · have hw : wordL ⟨1, b, c, d⟩ = [ltN c, 61, dgN d] := by simp [wordL]
    rw [hw]
    refine ⟨?_, ?_, ?_, ?_⟩
    · simp [insB, fenL, ci2, c6, d7]
    · simp [insR, fenL, ci0, ci1, c6, d7, h]
    · simp [c3.symm, d1.symm]
    · simp [c4.symm, d2.symm]
  · have hw : wordL ⟨2, b, c, d⟩ = [114, dgN b, 61, ltN c] := by simp [wordL]
    rw [hw]
    refine ⟨?_, ?_, ?_, ?_⟩
    · simp [insB, fenL, b5, c6]
    · simp [insR, fenL, b5, c6, h]
    · simp [c3.symm, b1.symm]
    · simp [c4.symm, b2.symm]
  · have hw : wordL ⟨3, b, c, d⟩ = fenL := by simp [wordL, fenL]
    rw [hw]
    refine ⟨?_, ?_, by decide, by decide⟩
    · simp [insB]
    · simp [insR, h1, h2, h3]
theorem wish_back {n : Nat} {x : Q4} (hn : n ≤ 16) (h : sndK n x = true) : clmB (wishL x) = true ∧ clmR (wishL x) = x ∧ 10 ∉ wishL x ∧ 32 ∉ wishL x := by
  obtain ⟨a, b, c, d⟩ := x
  unfold sndK at h
  simp only [Bool.and_eq_true, Bool.or_eq_true, decide_eq_true_eq, beq_iff_eq] at h
  obtain ⟨⟨hd0, hd1, hb0, hb1, hc0, hc1⟩, h⟩ := h
  obtain ⟨b, hb, rfl⟩ := nat_of (n := 16) hb0 hb1
  obtain ⟨c, hc, rfl⟩ := nat_of (n := 16) hc0 hc1
  obtain ⟨d, hd, rfl⟩ := nat_of (n := 10) hd0 (by omega)
  obtain ⟨b1, b2, b3, b4, b5, b6⟩ := dgN_of hb
  obtain ⟨c1, c2, c3, c4, c5, c6⟩ := dgN_of hc
  obtain ⟨d1, d2, _⟩ := dgN_of (show d < 16 by omega)
  have d7 := dgV_of hd
  rcases h with ⟨rfl, h⟩ | ⟨⟨ha0, ha1⟩, h⟩
  · have hw : wishL ⟨-1, b, c, d⟩ = [ltN c, 61, dgN d] := by simp [wishL]
    rw [hw]
    refine ⟨?_, ?_, ?_, ?_⟩
    · simp [clmB, ci2, c6, d7]
    · simp [clmR, ci0, ci1, c6, d7, h]
    · simp [c3.symm, d1.symm]
    · simp [c4.symm, d2.symm]
  · obtain ⟨a, ha, rfl⟩ := nat_of (n := 16) ha0 (by omega)
    obtain ⟨a1, a2, _, _, a5, _⟩ := dgN_of ha
    have hw : wishL ⟨a, b, c, d⟩ = [dgN a, 58, 114, dgN b, 61, dgN d] := by
      have : ¬ ((a : Int) = -1) := by omega
      simp [wishL, this]
    rw [hw]
    refine ⟨?_, ?_, ?_, ?_⟩
    · simp [clmB, a5, b5, d7]
    · simp [clmR, a5, b5, d7, h]
    · simp [a1.symm, b1.symm, d1.symm]
    · simp [a2.symm, b2.symm, d2.symm]

theorem not_mem_opens {c e : UInt8} {xs : List (List UInt8)} (hc : c ≠ e) (h : ∀ x ∈ xs, c ∉ x) : c ∉ opens e xs := by
  induction xs with
  | nil => simp [opens]
  | cons x xs ih =>
    simp only [opens, List.mem_cons, List.mem_append, not_or]
    exact ⟨hc, h x (List.mem_cons_self ..), ih (fun y hy => h y (List.mem_cons_of_mem _ hy))⟩
theorem all_sndI {row : List Q4} (h : sndRow row = true) : ∀ x ∈ row, sndI x = true := by
  unfold sndRow at h
  simp only [Bool.and_eq_true] at h
  exact fun x hx => List.all_eq_true.1 h.2 x hx
theorem lnL_split {k : Nat} (hk : k < 16) {row : List Q4} (h : sndRow row = true) : spS 32 (lnL k row) = headL k :: row.map wordL ∧ 10 ∉ lnL k row := by
  have hd := dgN_of hk
  refine ⟨spS_opens (by simp [headL, hd.2.1.symm]) (fun x hx => ?_), ?_⟩
  · obtain ⟨y, hy, rfl⟩ := List.mem_map.1 hx
    exact (word_back (all_sndI h y hy)).2.2.2
  · unfold lnL
    rw [List.mem_append, not_or]
    refine ⟨by simp [headL, hd.1.symm], not_mem_opens (by decide) fun x hx => ?_⟩
    obtain ⟨y, hy, rfl⟩ := List.mem_map.1 hx
    exact (word_back (all_sndI h y hy)).2.2.1
theorem map_back {f : List UInt8 → Q4} {g : Q4 → List UInt8} {l : List Q4} (h : ∀ x ∈ l, f (g x) = x) : (l.map g).map f = l := by
  rw [List.map_map]
  conv => rhs; rw [← List.map_id l]
  exact List.map_congr_left h
theorem thr_back {k : Nat} (hk : k < 16) {row : List Q4} (h : sndRow row = true) : thrB k (lnL k row) = true ∧ thrR k (lnL k row) = row := by
  have h1 : thB k (spS 32 (lnL k row)) = true := by
    rw [(lnL_split hk h).1, thB]
    simp only [List.getElem?_cons_zero, Option.getD_some, beq_self_eq_true, Bool.true_and, List.drop_succ_cons, List.drop_zero, List.all_map, List.all_eq_true]
    exact fun x hx => (word_back (all_sndI h x hx)).1
  have h2 : thL (spS 32 (lnL k row)) = row := by
    rw [(lnL_split hk h).1, thL]
    simp only [List.drop_succ_cons, List.drop_zero]
    exact map_back fun x hx => (word_back (all_sndI h x hx)).2.1
  unfold thrB thrR
  rw [h1, h2, h]
  exact ⟨rfl, rfl⟩
theorem lnW_split {n : Nat} (hn : n ≤ 16) {want : List Q4} (h : sndW n want = true) : spS 32 (lnW want) = wnH :: want.map wishL ∧ 10 ∉ lnW want := by
  unfold sndW at h
  simp only [Bool.and_eq_true] at h
  have ha := List.all_eq_true.1 h.2
  refine ⟨spS_opens (by decide) (fun x hx => ?_), ?_⟩
  · obtain ⟨y, hy, rfl⟩ := List.mem_map.1 hx
    exact (wish_back hn (ha y hy)).2.2.2
  · unfold lnW
    rw [List.mem_append, not_or]
    refine ⟨by decide, not_mem_opens (by decide) fun x hx => ?_⟩
    obtain ⟨y, hy, rfl⟩ := List.mem_map.1 hx
    exact (wish_back hn (ha y hy)).2.2.1
theorem wnt_back {n : Nat} (hn : n ≤ 16) {want : List Q4} (h : sndW n want = true) : wntB n (lnW want) = true ∧ wntR (lnW want) = want := by
  have h' := h
  unfold sndW at h'
  simp only [Bool.and_eq_true] at h'
  have ha := List.all_eq_true.1 h'.2
  have h1 : wtB (spS 32 (lnW want)) = true := by
    rw [(lnW_split hn h).1, wtB]
    simp only [List.getElem?_cons_zero, Option.getD_some, beq_self_eq_true, Bool.true_and, List.drop_succ_cons, List.drop_zero, List.all_map, List.all_eq_true]
    exact fun x hx => (wish_back hn (ha x hx)).1
  have h2 : wtL (spS 32 (lnW want)) = want := by
    rw [(lnW_split hn h).1, wtL]
    simp only [List.drop_succ_cons, List.drop_zero]
    exact map_back fun x hx => (wish_back hn (ha x hx)).2.1
  unfold wntB wntR
  rw [h1, h2, h]
  exact ⟨rfl, rfl⟩

theorem lns_len (code : List (List Q4)) (k : Nat) : (lns code k).length = k := by simp [lns]
theorem lns_at (code : List (List Q4)) {k i : Nat} (hi : i < k) : (lns code k)[i]?.getD [] = lnL i (code[i]?.getD []) := by
  unfold lns
  rw [List.getElem?_map, List.getElem?_range hi]
  rfl
theorem wnt_nothr {n : Nat} (hn : n ≤ 16) {want : List Q4} (h : sndW n want = true) (k : Nat) : thrB k (lnW want) = false := by
  unfold thrB thB
  rw [(lnW_split hn h).1]
  have : (wnH == headL k) = false := by simp [wnH, headL]
  simp only [List.getElem?_cons_zero, Option.getD_some, this, Bool.false_and]
theorem thrs_lns {code : List (List Q4)} {want : List Q4} (hn : code.length ≤ 16) (h : ∀ r ∈ code, sndRow r = true) (hw : sndW code.length want = true) (j : Nat) (hj : j ≤ code.length) : thrs (code.length - j) ((lns code code.length ++ [lnW want]).drop (code.length - j)) = code.drop (code.length - j) := by
  induction j with
  | zero =>
    have hl : (lns code code.length ++ [lnW want])[code.length]?.getD [] = lnW want := by rw [List.getElem?_append_right (by rw [lns_len]; exact Nat.le_refl _), lns_len]; simp
    rw [Nat.sub_zero, thrs_no (by simp [lns_len]) (fun e => by rw [hl, wnt_nothr hn hw] at e; cases e.2), List.drop_eq_nil_of_le (Nat.le_refl _)]
  | succ j ih =>
    obtain ⟨m, hm⟩ : ∃ m, code.length - (j + 1) = m := ⟨_, rfl⟩
    have hm1 : code.length - j = m + 1 := by omega
    have hml : m < code.length := by omega
    rw [hm]
    rw [hm1] at ih
    have hb := thr_back (show m < 16 by omega) (h (code[m]) (List.getElem_mem hml))
    have hl : (lns code code.length ++ [lnW want])[m]?.getD [] = lnL m code[m] := by rw [List.getElem?_append_left (by rw [lns_len]; exact hml), lns_at code hml, List.getElem?_eq_getElem hml]; rfl
    rw [thrs_yes (by simp [lns_len]; omega) (by omega) (by rw [hl]; exact hb.1), hl, hb.2, ih (by omega)]
    exact (List.drop_eq_getElem_cons hml).symm
theorem print_split {nm : List UInt8} {code : List (List Q4)} {want : List Q4} (h : sndT nm code want = true) : spS 10 (printL nm code want) = linesL nm code want ++ [[]] := by
  rw [sndT_eq] at h
  simp only [Bool.and_eq_true, decide_eq_true_eq] at h
  obtain ⟨⟨⟨h1, h2, h3⟩, h4⟩, h5⟩ := h
  rw [printL_ends]
  apply spS_ends
  intro x hx
  unfold linesL at hx
  rcases List.mem_cons.1 hx with rfl | hx
  · rw [List.mem_append, not_or]
    refine ⟨by decide, fun hm => ?_⟩
    unfold sndN at h1
    simp only [Bool.and_eq_true] at h1
    exact absurd (List.all_eq_true.1 h1.2 10 hm) (by decide)
  · rcases List.mem_append.1 hx with hx | hx
    · obtain ⟨i, hi, rfl⟩ := List.mem_map.1 hx
      have hil := List.mem_range.1 hi
      have hr : sndRow (code[i]?.getD []) = true := by
        rw [List.getElem?_eq_getElem hil]
        exact List.all_eq_true.1 h4 _ (List.getElem_mem hil)
      exact (lnL_split (show i < 16 by omega) hr).2
    · rw [List.mem_singleton.1 hx]
      exact (lnW_split h3 h5).2

/-- what was written is read again -/
theorem ps_print {nm : List UInt8} {code : List (List Q4)} {want : List Q4} (h : sndT nm code want = true) :
    psOk (printL nm code want) = true ∧ psNm (printL nm code want) = nm ∧ psC (printL nm code want) = code ∧ psW (printL nm code want) = want ∧ psAt (printL nm code want) = 0 := by
  have hsp := print_split h
  rw [sndT_eq] at h
  simp only [Bool.and_eq_true, decide_eq_true_eq] at h
  obtain ⟨⟨⟨h1, h2, h3⟩, h4⟩, h5⟩ := h
  have hll : (linesL nm code want).length = code.length + 2 := by simp [linesL, lns_len]
  have hN : psN (printL nm code want) = code.length + 2 := by
    unfold psN
    rw [hsp, List.length_append, hll]
    rfl
  have h0 : (spS 10 (printL nm code want))[0]?.getD [] = nmH ++ nm := by rw [hsp]; rfl
  have hlast : (spS 10 (printL nm code want))[code.length + 2]?.getD [] = [] := by
    rw [hsp, List.getElem?_append_right (by omega), hll]
    simp
  have hC : psC (printL nm code want) = code := by
    unfold psC
    rw [hN, hsp, List.take_append_of_le_length (by omega), List.take_of_length_le (by omega)]
    have hh := thrs_lns h3 (List.all_eq_true.1 h4) h5 code.length (Nat.le_refl _)
    rw [Nat.sub_self, List.drop_zero, List.drop_zero] at hh
    exact hh
  have hwl : (spS 10 (printL nm code want))[1 + code.length]?.getD [] = lnW want := by
    rw [hsp, List.getElem?_append_left (by omega), linesL, Nat.add_comm, List.getElem?_cons_succ, List.getElem?_append_right (by rw [lns_len]; exact Nat.le_refl _), lns_len]
    simp
  have hok : psOk (printL nm code want) = true := by
    unfold psOk
    rw [hN, h0, hC, hwl, hlast, (wnt_back h3 h5).1]
    have : nmB (nmH ++ nm) = true := by
      unfold nmB nmOk
      rw [show List.take 7 (nmH ++ nm) = nmH from rfl, show List.drop 7 (nmH ++ nm) = nm from rfl, h1]
      rfl
    rw [this]
    simp
    omega
  have hnm : nmB (nmH ++ nm) = true := by
    unfold nmB nmOk
    rw [show List.take 7 (nmH ++ nm) = nmH from rfl, show List.drop 7 (nmH ++ nm) = nm from rfl, h1]
    rfl
  refine ⟨hok, ?_, hC, ?_, ?_⟩
  · unfold psNm nmR
    rw [h0]
    unfold nmOk
    rw [show List.take 7 (nmH ++ nm) = nmH from rfl, show List.drop 7 (nmH ++ nm) = nm from rfl]
    rfl
  · unfold psW
    rw [hC, hwl]
    exact (wnt_back h3 h5).2
  · unfold psAt
    rw [hN, h0, hC, hwl, hlast, (wnt_back h3 h5).1, hnm]
    rw [if_neg (by omega), if_neg (by simp), if_neg (by omega), if_neg (by simp), if_neg (by simp; omega)]

end Go.Proofs.Ytokfiflflcfidaa
