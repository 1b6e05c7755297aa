import Derived.Test.YtokfiflflcfidaaPsR
import Derived.Test.YtokfiflflcfidaaPsF
namespace Go.Proofs.Ytokfiflflcfidaa
open Go.RowKit

/-- the pieces, by recursion -/
def spR (c : UInt8) : List UInt8 → List (List UInt8)
  | [] => [[]]
  | x :: xs => if x = c then [] :: spR c xs else (x :: (spR c xs).headD []) :: (spR c xs).tail
theorem spR_ne (c : UInt8) (s : List UInt8) : ∃ p r, spR c s = p :: r := by
  cases s with
  | nil => exact ⟨[], [], rfl⟩
  | cons x xs =>
    unfold spR
    split
    · exact ⟨_, _, rfl⟩
    · exact ⟨_, _, rfl⟩
theorem stp_spR (c : UInt8) (s : List UInt8) (q : List (List UInt8)) (a : List UInt8) : (s.foldl (stp c) (q, a)).1 ++ [(s.foldl (stp c) (q, a)).2] = q ++ (a ++ (spR c s).headD []) :: (spR c s).tail := by
  induction s generalizing q a with
  | nil => simp [spR]
  | cons x xs ih =>
    rw [List.foldl_cons]
    by_cases hx : x = c
    · subst hx
      rw [show stp x (q, a) x = (q ++ [a], []) by simp [stp], ih]
      obtain ⟨p, r, hp⟩ := spR_ne x xs
      simp [spR, hp]
    · rw [show stp c (q, a) x = (q, a ++ [x]) by simp [stp, hx], ih]
      simp [spR, hx]
theorem spS_spR (c : UInt8) (s : List UInt8) : spS c s = spR c s := by
  unfold spS
  rw [spT_stp, stp_spR]
  obtain ⟨p, r, hp⟩ := spR_ne c s
  simp [hp]
theorem spR_none {c : UInt8} {x : List UInt8} (h : c ∉ x) : spR c x = [x] := by
  induction x with
  | nil => rfl
  | cons y ys ih =>
    have hy : ¬ y = c := fun e => h (by rw [e]; exact List.mem_cons_self ..)
    rw [spR, if_neg hy, ih (fun e => h (List.mem_cons_of_mem _ e))]
    rfl
theorem spR_app {c : UInt8} {x : List UInt8} (h : c ∉ x) (y : List UInt8) : spR c (x ++ y) = (x ++ (spR c y).headD []) :: (spR c y).tail := by
  induction x with
  | nil =>
    obtain ⟨p, r, hp⟩ := spR_ne c y
    simp [hp]
  | cons z zs ih =>
    have hz : ¬ z = c := fun e => h (by rw [e]; exact List.mem_cons_self ..)
    rw [List.cons_append, spR, if_neg hz, ih (fun e => h (List.mem_cons_of_mem _ e))]
    rfl
theorem spR_sep (c : UInt8) (y : List UInt8) : spR c (c :: y) = [] :: spR c y := by rw [spR, if_pos rfl]
theorem spR_head {c : UInt8} {x : List UInt8} (h : c ∉ x) (y : List UInt8) : spR c (x ++ c :: y) = x :: spR c y := by rw [spR_app h, spR_sep]; simp
theorem spR_none_in (c : UInt8) (s : List UInt8) : ∀ x ∈ spR c s, c ∉ x := by
  induction s with
  | nil => intro x hx; simp [spR] at hx; subst hx; simp
  | cons y ys ih =>
    obtain ⟨p, r, hp⟩ := spR_ne c ys
    rw [hp] at ih
    intro x hx
    unfold spR at hx
    rw [hp] at hx
    split at hx
    · rcases List.mem_cons.1 hx with rfl | hx
      · simp
      · exact ih x hx
    · rename_i hy
      rcases List.mem_cons.1 hx with rfl | hx
      · have := ih p (List.mem_cons_self ..)
        simp only [List.headD_cons, List.mem_cons, not_or]
        exact ⟨fun e => hy e.symm, this⟩
      · exact ih x (List.mem_cons_of_mem _ hx)
/-- the pieces put together -/
theorem spR_join (c : UInt8) (s : List UInt8) : (spR c s).headD [] ++ opens c (spR c s).tail = s := by
  induction s with
  | nil => rfl
  | cons y ys ih =>
    obtain ⟨p, r, hp⟩ := spR_ne c ys
    rw [hp] at ih
    unfold spR
    rw [hp]
    split
    · rename_i hy
      subst hy
      simp only [List.headD_cons, List.tail_cons, opens, List.nil_append]
      rw [show p ++ opens y r = ys from ih]
    · simp only [List.headD_cons, List.tail_cons, List.cons_append]
      rw [show p ++ opens c r = ys from ih]
/-- does every word have a blank ahead of it? -/
def wdsOk (t : List UInt8) : Bool := match t with | [] => true | x :: _ => x == 32
def wds (t : List UInt8) : List (List UInt8) := (spR 32 t).tail
theorem wdsOk_head (t : List UInt8) : wdsOk t = ((spR 32 t).headD [] == []) := by
  cases t with
  | nil => rfl
  | cons x xs =>
    unfold wdsOk spR
    by_cases hx : x = 32
    · subst hx; rfl
    · rw [if_neg hx]
      show (x == 32) = _
      rw [beq_eq_false_iff_ne.2 hx]
      rfl

theorem head_pre {h l : List UInt8} (hc : 32 ∉ h) : ((spS 32 l)[0]?.getD [] == h) = ((l.take h.length == h) && wdsOk (l.drop h.length)) ∧ (l.take h.length = h → (spS 32 l).drop 1 = wds (l.drop h.length)) := by
  rw [spS_spR]
  have hd : (spR 32 l)[0]?.getD [] = (spR 32 l).headD [] := by
    obtain ⟨p, r, hp⟩ := spR_ne 32 l
    simp [hp]
  rw [hd]
  by_cases ht : l.take h.length = h
  · have hl : l = h ++ l.drop h.length := by
      conv => lhs; rw [← List.take_append_drop h.length l, ht]
    obtain ⟨t, ht2⟩ : ∃ t, l.drop h.length = t := ⟨_, rfl⟩
    rw [ht2] at hl ⊢
    rw [beq_iff_eq.2 ht, wdsOk_head, hl, spR_app hc]
    refine ⟨?_, fun _ => rfl⟩
    simp only [List.headD_cons, Bool.true_and]
    rw [Bool.eq_iff_iff, beq_iff_eq, beq_iff_eq]
    constructor
    · intro e; exact List.append_right_eq_self.1 e
    · intro e; rw [e, List.append_nil]
  · refine ⟨?_, fun e => absurd e ht⟩
    rw [beq_eq_false_iff_ne.2 ht, Bool.false_and, beq_eq_false_iff_ne]
    intro e
    apply ht
    have hj := spR_join 32 l
    rw [e] at hj
    rw [← hj]
    simp

theorem numF_lt (x : UInt8) (signs : List UInt8) (k : Nat) : numF x signs k = -1 ∨ ∃ n : Nat, n < signs.length ∧ numF x signs k = ((k + n : Nat) : Int) ∧ signs[n]? = some x := by
  induction signs generalizing k with
  | nil => exact Or.inl rfl
  | cons y ys ih =>
    unfold numF
    by_cases hy : y = x
    · rw [if_pos hy]
      exact Or.inr ⟨0, by simp, by simp, by simp [hy]⟩
    · rw [if_neg hy]
      rcases ih (k + 1) with h | ⟨n, h1, h2, h3⟩
      · exact Or.inl h
      · refine Or.inr ⟨n + 1, by simp; omega, ?_, by simpa using h3⟩
        rw [h2]
        congr 1
        omega
theorem numL_some {signs : List UInt8} {x : UInt8} (h : 0 ≤ numL signs x) : ∃ n : Nat, n < signs.length ∧ numL signs x = (n : Int) ∧ signs[n]? = some x := by
  rcases numF_lt x signs 0 with h1 | ⟨n, h1, h2, h3⟩
  · unfold numL at h; omega
  · exact ⟨n, h1, by unfold numL; rw [h2, Nat.zero_add], h3⟩
theorem nbr_tab : ∀ k : Fin 16, nbrS[k.val]? = some (dgN k.val) ∧ celS[k.val]? = some (ltN k.val) := by decide
theorem val_tab : ∀ k : Fin 10, valS[k.val]? = some (dgN k.val) := by decide
theorem nbr_of {x : UInt8} (h : 0 ≤ numL nbrS x) : ∃ n : Nat, n < 16 ∧ numL nbrS x = (n : Int) ∧ dgN n = x := by
  obtain ⟨n, h1, h2, h3⟩ := numL_some h
  exact ⟨n, h1, h2, Option.some.inj ((nbr_tab ⟨n, h1⟩).1.symm.trans h3)⟩
theorem cel_of {x : UInt8} (h : 0 ≤ numL celS x) : ∃ n : Nat, n < 16 ∧ numL celS x = (n : Int) ∧ ltN n = x := by
  obtain ⟨n, h1, h2, h3⟩ := numL_some h
  exact ⟨n, h1, h2, Option.some.inj ((nbr_tab ⟨n, h1⟩).2.symm.trans h3)⟩
theorem val_of {x : UInt8} (h : 0 ≤ numL valS x) : ∃ n : Nat, n < 10 ∧ numL valS x = (n : Int) ∧ dgN n = x := by
  obtain ⟨n, h1, h2, h3⟩ := numL_some h
  exact ⟨n, h1, h2, Option.some.inj ((val_tab ⟨n, h1⟩).symm.trans h3)⟩

theorem ci_back {l : List UInt8} (h : ci2 l = true) : ∃ c d : Nat, c < 16 ∧ d < 10 ∧ ci0 l = (c : Int) ∧ ci1 l = (d : Int) ∧ l = [ltN c, 61, dgN d] := by
  match l, h with
  | [a, b, c], h =>
    simp only [ci2, Bool.and_eq_true, beq_iff_eq, decide_eq_true_eq] at h
    obtain ⟨rfl, ha, hc⟩ := h
    obtain ⟨n, h1, h2, rfl⟩ := cel_of ha
    obtain ⟨m, k1, k2, rfl⟩ := val_of hc
    exact ⟨n, m, h1, k1, by simp [ci0, h2], by simp [ci1, k2], rfl⟩
/-- an instruction that was read is sound, and written as it was -/
theorem ins_snd {l : List UInt8} (h : insB l = true) : sndI (insR l) = true ∧ wordL (insR l) = l := by
  by_cases hf : l = fenL
  · subst hf
    exact ⟨by decide, by decide⟩
  · by_cases h4 : l.length = 4
    · match l, h4 with
      | [a, b, c, d], _ =>
        have hi := @insR_four a b c d
        by_cases hq : a = 114 ∧ c = 61
        · rw [hi.2, if_pos hq, Bool.and_eq_true, decide_eq_true_eq, decide_eq_true_eq] at h
          rw [hi.1, if_pos hq]
          obtain ⟨n, h1, h2, rfl⟩ := nbr_of h.1
          obtain ⟨m, k1, k2, rfl⟩ := cel_of h.2
          obtain ⟨rfl, rfl⟩ := hq
          rw [h2, k2]
          refine ⟨?_, by simp [wordL]⟩
          simp [sndI]
          omega
        · rw [hi.2, if_neg hq] at h
          cases h
    · have hi := insR_else hf h4
      rw [hi.2] at h
      obtain ⟨c, d, hc, hd, e0, e1, hl⟩ := ci_back h
      rw [hi.1, e0, e1]
      refine ⟨?_, ?_⟩
      · simp [sndI]
        omega
      · rw [hl]; simp [wordL]
theorem clm_back {l : List UInt8} (h : clmB l = true) : (∀ n : Nat, n ≤ 16 → sndK n (clmR l) = true → wishL (clmR l) = l) ∧ (ci2 l = true → ∀ n, sndK n (clmR l) = true) := by
  by_cases h6 : l.length = 6
  · match l, h6 with
    | [a, b, c, d, e, f], _ =>
      refine ⟨fun n hn _ => ?_, fun h => by simp [ci2] at h⟩
      by_cases hq : b = 58 ∧ c = 114 ∧ e = 61
      · simp only [clmB, if_pos hq, Bool.and_eq_true, decide_eq_true_eq] at h
        simp only [clmR, if_pos hq]
        obtain ⟨na, a1, a2, rfl⟩ := nbr_of h.1.1
        obtain ⟨nd, d1, d2, rfl⟩ := nbr_of h.1.2
        obtain ⟨nf, f1, f2, rfl⟩ := val_of h.2
        obtain ⟨rfl, rfl, rfl⟩ := hq
        rw [a2, d2, f2]
        have : ¬ ((na : Int) = -1) := by omega
        simp [wishL, this]
      · simp only [clmB, if_neg hq] at h
        simp [ci2] at h
  · have h1 : clmB l = ci2 l ∧ clmR l = ⟨-1, 0, ci0 l, ci1 l⟩ := by
      match l, h6 with
      | [], _ => exact ⟨rfl, rfl⟩
      | [_], _ => exact ⟨rfl, rfl⟩
      | [_, _], _ => exact ⟨rfl, rfl⟩
      | [_, _, _], _ => exact ⟨rfl, rfl⟩
      | [_, _, _, _], _ => exact ⟨rfl, rfl⟩
      | [_, _, _, _, _], _ => exact ⟨rfl, rfl⟩
      | [_, _, _, _, _, _], h => exact absurd rfl h
      | _ :: _ :: _ :: _ :: _ :: _ :: _ :: _, _ => exact ⟨rfl, rfl⟩
    rw [h1.1] at h
    obtain ⟨c, d, hc, hd, e0, e1, hl⟩ := ci_back h
    rw [h1.2, e0, e1]
    refine ⟨fun n _ _ => by rw [hl]; simp [wishL], fun _ n => ?_⟩
    simp [sndK]
    omega
/-- a claim's word over n threads -/
def clW (n : Nat) (l : List UInt8) : Bool := clmB l && sndK n (clmR l)

theorem thr_doc {k : Nat} (hk : k < 16) (l : List UInt8) : thrB k l = ((l.take 3 == headL k) && (wdsOk (l.drop 3) && (decide (0 < (wds (l.drop 3)).length) && (decide ((wds (l.drop 3)).length ≤ 32) && (wds (l.drop 3)).all insB)))) := by
  have hd := dgN_of hk
  have hp := @head_pre (headL k) l (by simp [headL, hd.2.1.symm])
  have h3 : (headL k).length = 3 := rfl
  rw [h3] at hp
  unfold thrB thB
  rw [hp.1]
  cases ht : (l.take 3 == headL k)
  · simp
  · have hw := hp.2 (beq_iff_eq.1 ht)
    rw [hw, thL, hw]
    cases wdsOk (l.drop 3)
    · simp
    · cases ha : (wds (l.drop 3)).all insB
      · simp
      · simp only [Bool.true_and, sndRow, List.length_map, List.all_map, Bool.and_true]
        have : (wds (l.drop 3)).all (sndI ∘ insR) = true := List.all_eq_true.2 fun x hx => (ins_snd (List.all_eq_true.1 ha x hx)).1
        rw [this, Bool.and_true]
theorem wnt_doc (n : Nat) (l : List UInt8) : wntB n l = ((l.take 4 == wnH) && (wdsOk (l.drop 4) && (decide ((wds (l.drop 4)).length ≤ 32) && (wds (l.drop 4)).all (clW n)))) := by
  have hp := @head_pre wnH l (by decide)
  have h4 : wnH.length = 4 := rfl
  rw [h4] at hp
  unfold wntB wtB
  rw [hp.1]
  cases ht : (l.take 4 == wnH)
  · simp
  · have hw := hp.2 (beq_iff_eq.1 ht)
    rw [hw, wtL, hw]
    cases wdsOk (l.drop 4)
    · simp
    · simp only [Bool.true_and, sndW, List.length_map, List.all_map]
      have : (wds (l.drop 4)).all (clW n) = ((wds (l.drop 4)).all clmB && (wds (l.drop 4)).all (sndK n ∘ clmR)) := by
        rw [Bool.eq_iff_iff, Bool.and_eq_true, List.all_eq_true, List.all_eq_true, List.all_eq_true]
        constructor
        · intro h
          exact ⟨fun x hx => (Bool.and_eq_true .. ▸ h x hx : _ ∧ _).1, fun x hx => (Bool.and_eq_true .. ▸ h x hx : _ ∧ _).2⟩
        · intro h x hx
          unfold clW
          rw [Bool.and_eq_true]
          exact ⟨h.1 x hx, h.2 x hx⟩
      rw [this]
      cases (wds (l.drop 4)).all clmB <;> simp
theorem nm_doc (l : List UInt8) : nmB l = ((l.take 7 == nmH) && (decide (l.length ≤ 70) && l.all okB)) := by
  unfold nmB nmOk sndN
  cases h : (l.take 7 == nmH)
  · rfl
  · have ht := beq_iff_eq.1 h
    have h7 : 7 ≤ l.length := by
      have := congrArg List.length ht
      rw [List.length_take] at this
      simp [nmH] at this
      omega
    have ha : l.all okB = (l.drop 7).all okB := by
      conv => lhs; rw [← List.take_append_drop 7 l, ht, List.all_append]
      rfl
    rw [ha, List.length_drop]
    simp only [Bool.true_and]
    congr 1
    rw [decide_eq_decide]
    omega

end Go.Proofs.Ytokfiflflcfidaa
