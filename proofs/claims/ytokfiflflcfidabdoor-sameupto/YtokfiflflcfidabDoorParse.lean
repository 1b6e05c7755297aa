import Derived.Test.YtokfiflflcfidabDoorPlain
import Derived.WalkKit
import Derived.Lib.Strings
import Derived.Lib.IndexBytes
namespace Go.Proofs.YtokfiflflcfidabDoor
open Go.RowKit

/-- the names of the edges -/
def nmL : Nat → List UInt8
  | 0 => [67, 111, 101]
  | 1 => [67, 111, 105]
  | 2 => [70, 82, 82]
  | 3 => [70, 82, 87]
  | 4 => [70, 87, 82]
  | 5 => [70, 87, 87]
  | 6 => [70, 114, 101]
  | 7 => [70, 114, 105]
  | 8 => [80, 82, 82]
  | 9 => [80, 82, 87]
  | 10 => [80, 87, 82]
  | 11 => [80, 87, 87]
  | 12 => [82, 102, 101]
  | _ => [82, 102, 105]
def nm (e : Nat) : ByteArray := ⟨(nmL e).toArray⟩

theorem nmL_length (e : Nat) : (nmL e).length = 3 := by
  unfold nmL; split <;> rfl
theorem nm_size (e : Nat) : (nm e).size = 3 := by
  have := nmL_length e
  simp [nm, ByteArray.size, this]

/-- the first edge whose name begins with h; 14: none -/
def ebw (h : List UInt8) : Nat := firstNo (fun e => !(h.isPrefixOf (nmL e))) 14
/-- the same as a number of Go: -1: none -/
def ebwI (h : List UInt8) : Int := if ebw h < 14 then (ebw h : Nat) else -1
theorem ebwI_some {h : List UInt8} {n : Nat} (e : ebw h = n) (hn : n < 14) : ebwI h = n := by unfold ebwI; rw [e, if_pos hn]
theorem ebwI_none {h : List UInt8} (e : ebw h = 14) : ebwI h = -1 := by unfold ebwI; rw [e]; rfl
/-- the bytes from i to j -/
def seg (s : List UInt8) (i j : Nat) : List UInt8 := (s.drop i).take (j - i)
/-- can byte i stand where it stands? -/
def okAt (s : List UInt8) (i : Nat) : Bool := if i % 4 = 3 then s[i]?.getD 0 == 32 else decide (ebw (seg s (i - i % 4) (i + 1)) < 14)
/-- the first byte that cannot stand there, or the length -/
def fb (s : List UInt8) : Nat := firstNo (okAt s) s.length
def isE (s : List UInt8) : Bool := fb s == s.length && s.length % 4 == 3
def rdE (s : List UInt8) : Nat := if isE s then 0 else 2
def rdP (s : List UInt8) : Nat := if isE s then 0 else fb s
/-- the edges of the first n bytes -/
def edgesTo (s : List UInt8) (n : Nat) : List Nat := (List.range ((n + 1) / 4)).map fun j => ebw (seg s (4 * j) (4 * j + 3))
def edgesOf (s : List UInt8) : List Nat := edgesTo s s.length

/-- how many bytes of the name e, at most three, h begins with -/
def cpl (e : Nat) (h : List UInt8) : Nat := firstNo (fun k => decide (k < h.length) && (nmL e)[k]?.getD 0 == h[k]?.getD 0) 3
/-- the best of the first n names, and which -/
def mt (h : List UInt8) : Nat → Nat × Nat
  | 0 => (0, 0)
  | n + 1 => if (mt h n).1 < cpl n h then (cpl n h, n) else mt h n
theorem cpl_le (e : Nat) (h : List UInt8) : cpl e h ≤ 3 := firstNo_le _ _
theorem mt_le (h : List UInt8) (n : Nat) : (mt h n).1 ≤ 3 ∧ (mt h n).2 ≤ n := by
  induction n with
  | zero => simp [mt]
  | succ n ih =>
    have := cpl_le n h
    simp only [mt]; split <;> (try dsimp only) <;> omega

theorem pfx (s : ByteArray) (n : Nat) : (((nm n).extract 0 s.size).toList == s.toList) = s.data.toList.isPrefixOf (nmL n) := by
  rw [ByteArray.toList_eq, ByteArray.toList_eq, Lib.extract_data, Bool.eq_iff_iff, beq_iff_eq, List.isPrefixOf_iff_prefix, List.prefix_iff_eq_take]
  simp only [nm, List.drop_zero, Nat.sub_zero]
  have : s.data.toList.length = s.size := by rw [Array.length_toList]; rfl
  rw [this]
  exact ⟨fun h => h.symm, fun h => h.symm⟩

theorem byte_at (s : ByteArray) (i : Nat) (h : i < s.size) : s.data.toList[i]?.getD 0 = s[i] := by rw [Lib.data_getElem? s i h]; rfl
theorem size_data (s : ByteArray) : s.data.toList.length = s.size := by rw [Array.length_toList]; rfl
theorem beq_byte (a b : UInt8) : (((a.toNat : Nat) : Int) == ((b.toNat : Nat) : Int)) = (a == b) := by
  rw [Bool.eq_iff_iff, beq_iff_eq, beq_iff_eq]
  exact ⟨Lib.byte_eq_of_toNat, fun h => by rw [h]⟩
theorem seg_extract (s : ByteArray) (i j : Nat) : (s.extract i j).data.toList = seg s.data.toList i j := Lib.extract_data s i j

theorem stop_at {s : List UInt8} {n : Nat} (hall : ∀ j, j < n → okAt s j = true) (hn : n < s.length) (hno : okAt s n = false) : isE s = false ∧ rdE s = 2 ∧ rdP s = n := by
  have e1 : fb s = n := firstNo_eq _ _ _ (by omega) hall (Or.inr hno)
  have e2 : isE s = false := by unfold isE; rw [e1]; simp; omega
  refine ⟨e2, ?_, ?_⟩
  · unfold rdE; rw [e2]; rfl
  · unfold rdP; rw [e2, e1]; rfl
theorem stop_short {s : List UInt8} (hall : ∀ j, j < s.length → okAt s j = true) (hno : s.length % 4 ≠ 3) : isE s = false ∧ rdE s = 2 ∧ rdP s = s.length := by
  have e1 : fb s = s.length := firstNo_eq _ _ _ (by omega) hall (Or.inl rfl)
  have e2 : isE s = false := by unfold isE; rw [e1]; simpa using hno
  refine ⟨e2, ?_, ?_⟩
  · unfold rdE; rw [e2]; rfl
  · unfold rdP; rw [e2, e1]; rfl
theorem stop_whole {s : List UInt8} (hall : ∀ j, j < s.length → okAt s j = true) (h3 : s.length % 4 = 3) : isE s = true ∧ rdE s = 0 ∧ rdP s = 0 := by
  have e1 : fb s = s.length := firstNo_eq _ _ _ (by omega) hall (Or.inl rfl)
  have e2 : isE s = true := by unfold isE; rw [e1, h3]; simp
  refine ⟨e2, ?_, ?_⟩
  · unfold rdE; rw [e2]; rfl
  · unfold rdP; rw [e2]; rfl
theorem okAt_blank {s : List UInt8} {n : Nat} (h : n % 4 = 3) : okAt s n = (s[n]?.getD 0 == 32) := by unfold okAt; rw [if_pos h]
theorem okAt_letter {s : List UInt8} {n : Nat} (h : n % 4 ≠ 3) : okAt s n = decide (ebw (seg s (n - n % 4) (n + 1)) < 14) := by unfold okAt; rw [if_neg h]
theorem edgesTo_same {s : List UInt8} {n : Nat} (h : n % 4 ≠ 2) : edgesTo s (n + 1) = edgesTo s n := by
  unfold edgesTo; rw [show (n + 1 + 1) / 4 = (n + 1) / 4 from by omega]
theorem edgesTo_more {s : List UInt8} {n : Nat} (h : n % 4 = 2) : edgesTo s (n + 1) = edgesTo s n ++ [ebw (seg s (n - n % 4) (n + 1))] := by
  unfold edgesTo
  rw [show (n + 1 + 1) / 4 = (n + 1) / 4 + 1 from by omega, List.range_succ, List.map_append]
  simp only [List.map_cons, List.map_nil]
  rw [show 4 * ((n + 1) / 4) = n - n % 4 from by omega, show n - n % 4 + 3 = n + 1 from by omega]
theorem edgesTo_length (s : List UInt8) (n : Nat) : (edgesTo s n).length = (n + 1) / 4 := by simp [edgesTo]

theorem ebwI_cases (h : List UInt8) : (ebwI h = -1 ∧ ebw h = 14) ∨ ∃ e : Nat, ebwI h = e ∧ e < 14 ∧ ebw h = e := by
  have := firstNo_le (fun e => !(h.isPrefixOf (nmL e))) 14
  by_cases h1 : ebw h < 14
  · exact Or.inr ⟨ebw h, ebwI_some rfl h1, h1, rfl⟩
  · have e1 : ebw h = 14 := by unfold ebw at *; omega
    exact Or.inl ⟨ebwI_none e1, e1⟩

theorem cpl_ge (e : Nat) (h : List UInt8) (k : Nat) (hk : k ≤ 3) : k ≤ cpl e h ↔ ∀ i, i < k → i < h.length ∧ (nmL e)[i]?.getD 0 = h[i]?.getD 0 := by
  constructor
  · intro hc i hi
    have := firstNo_yes (fun k => decide (k < h.length) && (nmL e)[k]?.getD 0 == h[k]?.getD 0) 3 i (by unfold cpl at hc; omega)
    simpa using this
  · intro hall
    apply Nat.le_of_not_lt
    intro hlt
    have h1 := hall _ hlt
    have h2 := firstNo_no (fun k => decide (k < h.length) && (nmL e)[k]?.getD 0 == h[k]?.getD 0) 3 (by unfold cpl at hlt; omega)
    have h3 : (decide (cpl e h < h.length) && (nmL e)[cpl e h]?.getD 0 == h[cpl e h]?.getD 0) = false := h2
    rw [decide_eq_true h1.1, h1.2] at h3
    simp at h3
theorem take_pfx (e : Nat) (h : List UInt8) (k : Nat) (hk : k ≤ 3) (hl : k ≤ h.length) : (h.take k).isPrefixOf (nmL e) = true ↔ k ≤ cpl e h := by
  rw [cpl_ge e h k hk, List.isPrefixOf_iff_prefix, List.prefix_iff_eq_take, List.length_take, Nat.min_eq_left hl]
  have hn := nmL_length e
  constructor
  · intro heq i hi
    have := congrArg (fun l => l[i]?.getD 0) heq
    simp only [List.getElem?_take, if_pos hi] at this
    exact ⟨by omega, this.symm⟩
  · intro hall
    apply List.ext_getElem
    · simp; omega
    · intro i h1 h2
      simp only [List.length_take] at h1
      have h3 := (hall i (by omega)).2
      have h4 : i < h.length := by omega
      have h5 : i < (nmL e).length := by omega
      simp [h4, h5] at h3
      simp [h3]
theorem mt_max (h : List UInt8) (n : Nat) : (∀ e, e < n → cpl e h ≤ (mt h n).1) ∧ ((mt h n).1 = 0 ∨ ((mt h n).2 < n ∧ cpl (mt h n).2 h = (mt h n).1 ∧ ∀ e, e < (mt h n).2 → cpl e h < (mt h n).1)) := by
  induction n with
  | zero => exact ⟨fun e he => absurd he (by omega), Or.inl rfl⟩
  | succ n ih =>
    obtain ⟨h1, h2⟩ := ih
    simp only [mt]
    by_cases hc : (mt h n).1 < cpl n h
    · rw [if_pos hc]
      refine ⟨fun e he => ?_, Or.inr ⟨by omega, rfl, fun e he => ?_⟩⟩
      · by_cases hen : e = n
        · rw [hen]; exact Nat.le_refl _
        · have := h1 e (by omega); dsimp only; omega
      · have := h1 e he; dsimp only; omega
    · rw [if_neg hc]
      refine ⟨fun e he => ?_, ?_⟩
      · by_cases hen : e = n
        · rw [hen]; omega
        · exact h1 e (by omega)
      · rcases h2 with h2 | ⟨h2, h3, h4⟩
        · exact Or.inl h2
        · exact Or.inr ⟨by omega, h3, h4⟩
theorem ebw_lt (h : List UInt8) (k : Nat) (hk : k ≤ 3) (hl : k ≤ h.length) : ebw (h.take k) < 14 ↔ ∃ e, e < 14 ∧ k ≤ cpl e h := by
  constructor
  · intro hlt
    have := firstNo_no (fun e => !((h.take k).isPrefixOf (nmL e))) 14 hlt
    refine ⟨ebw (h.take k), hlt, (take_pfx _ h k hk hl).1 ?_⟩
    have h2 : (!((h.take k).isPrefixOf (nmL (ebw (h.take k))))) = false := this
    simpa using h2
  · rintro ⟨e, he, hc⟩
    apply Nat.lt_of_not_le
    intro hge
    have := firstNo_yes (fun e => !((h.take k).isPrefixOf (nmL e))) 14 e (by unfold ebw at hge; omega)
    have h2 : (!((h.take k).isPrefixOf (nmL e))) = true := this
    rw [(take_pfx e h k hk hl).2 hc] at h2
    cases h2
theorem cpl_len (e : Nat) (h : List UInt8) : cpl e h ≤ h.length := by
  have h1 := (cpl_ge e h (cpl e h) (cpl_le e h)).1 (Nat.le_refl _)
  rcases Nat.eq_zero_or_pos (cpl e h) with h0 | h0
  · omega
  · have := (h1 (cpl e h - 1) (by omega)).1; omega
theorem mt_len (h : List UInt8) (n : Nat) : (mt h n).1 ≤ h.length := by
  rcases (mt_max h n).2 with h1 | ⟨_, h2, _⟩
  · omega
  · rw [← h2]; exact cpl_len _ _
/-- at the beginning of a word: letter k can stand just if the best name fits that far -/
theorem okAt_best {s : List UInt8} {n k : Nat} (h4 : n % 4 = 0) (hk : k < 3) (hl : n + k < s.length) : okAt s (n + k) = decide (k < (mt (s.drop n) 14).1) := by
  rw [okAt_letter (by omega), show n + k - (n + k) % 4 = n from by omega]
  have e1 : seg s n (n + k + 1) = (s.drop n).take (k + 1) := by unfold seg; rw [show n + k + 1 - n = k + 1 from by omega]
  rw [e1, Bool.eq_iff_iff, decide_eq_true_iff, decide_eq_true_iff, ebw_lt _ _ (by omega) (by simp; omega)]
  have hm := mt_max (s.drop n) 14
  constructor
  · rintro ⟨e, he, hc⟩
    have := hm.1 e he; omega
  · intro hlt
    rcases hm.2 with h0 | ⟨h1, h2, _⟩
    · omega
    · exact ⟨_, h1, by omega⟩
theorem best_is {s : List UInt8} {n : Nat} (h3 : (mt (s.drop n) 14).1 = 3) : (mt (s.drop n) 14).2 = ebw (seg s n (n + 3)) ∧ (mt (s.drop n) 14).2 < 14 ∧ n + 3 ≤ s.length := by
  have hm := (mt_max (s.drop n) 14).2
  have hl := mt_len (s.drop n) 14
  rw [h3] at hl
  simp at hl
  rcases hm with h0 | ⟨h1, h2, h4⟩
  · omega
  · refine ⟨?_, h1, by omega⟩
    have e1 : seg s n (n + 3) = (s.drop n).take 3 := by unfold seg; rw [show n + 3 - n = 3 from by omega]
    rw [e1]
    symm
    refine firstNo_eq _ _ _ (by omega) (fun e he => ?_) (Or.inr ?_)
    · show (!(((s.drop n).take 3).isPrefixOf (nmL e))) = true
      have h5 := h4 e he
      have h6 := take_pfx e (s.drop n) 3 (by omega) (by simp; omega)
      cases hp : ((s.drop n).take 3).isPrefixOf (nmL e)
      · rfl
      · have := h6.1 hp; omega
    · show (!(((s.drop n).take 3).isPrefixOf (nmL _))) = false
      rw [(take_pfx _ (s.drop n) 3 (by omega) (by simp; omega)).2 (by omega)]; rfl

/-- the word that begins at n does not fit: here the text stops -/
theorem stop_word {s : List UInt8} {n : Nat} (hall : ∀ j, j < n → okAt s j = true) (h4 : n % 4 = 0) (hn : n ≤ s.length) (hb : (mt (s.drop n) 14).1 < 3) : isE s = false ∧ rdE s = 2 ∧ rdP s = n + (mt (s.drop n) 14).1 := by
  have hl := mt_len (s.drop n) 14
  have hall2 : ∀ j, j < n + (mt (s.drop n) 14).1 → okAt s j = true := by
    intro j hj
    by_cases hjn : j < n
    · exact hall j hjn
    · have := okAt_best (s := s) (n := n) (k := j - n) h4 (by omega) (by simp at hl; omega)
      rw [show n + (j - n) = j from by omega] at this
      rw [this]; simp; omega
  simp at hl
  by_cases he : n + (mt (s.drop n) 14).1 < s.length
  · exact stop_at hall2 he (by rw [okAt_best h4 hb he]; simp)
  · have e1 : n + (mt (s.drop n) 14).1 = s.length := by omega
    rw [e1] at hall2
    have := stop_short hall2 (by omega)
    rw [e1]; exact this
/-- the word that begins at n fits -/
theorem pass_word {s : List UInt8} {n : Nat} (hall : ∀ j, j < n → okAt s j = true) (h4 : n % 4 = 0) (hb : (mt (s.drop n) 14).1 = 3) :
    n + 3 ≤ s.length ∧ (mt (s.drop n) 14).2 < 14 ∧ edgesTo s (n + 3) = edgesTo s n ++ [(mt (s.drop n) 14).2] ∧ ∀ j, j < n + 3 → okAt s j = true := by
  obtain ⟨h1, h2, h3⟩ := best_is hb
  refine ⟨h3, h2, ?_, fun j hj => ?_⟩
  · rw [edgesTo_more (n := n + 2) (by omega), edgesTo_same (n := n + 1) (by omega), edgesTo_same (n := n) (by omega), h1]
    rw [show n + 2 - (n + 2) % 4 = n from by omega]
  · by_cases hjn : j < n
    · exact hall j hjn
    · have := okAt_best (s := s) (n := n) (k := j - n) h4 (by omega) (by omega)
      rw [show n + (j - n) = j from by omega] at this
      rw [this, hb]; simp; omega

end Go.Proofs.YtokfiflflcfidabDoor
