import Derived.Test.YtokfiflflcfidaaSndT
import Derived.Test.YtokfiflflcfidaaWrdW
namespace Go.Proofs.Ytokfiflflcfidaa
open Go.RowKit

/-- the words of a thread's first j instructions, each behind a space -/
def rowL (row : List Q4) : Nat → List UInt8
  | 0 => []
  | j + 1 => rowL row j ++ 32 :: wordL (row[j]?.getD q0)
def lineL (k : Nat) (row : List Q4) : List UInt8 := headL k ++ rowL row row.length ++ [10]
/-- the lines of the first k threads -/
def codeL (code : List (List Q4)) : Nat → List UInt8
  | 0 => []
  | k + 1 => codeL code k ++ lineL k (code[k]?.getD [])
def wantL (want : List Q4) : Nat → List UInt8
  | 0 => []
  | j + 1 => wantL want j ++ 32 :: wishL (want[j]?.getD q0)
def titleL (nm : List UInt8) : List UInt8 := [108, 105, 116, 109, 117, 115, 32] ++ nm ++ [10]
/-- the text of a test -/
def printL (nm : List UInt8) (code : List (List Q4)) (want : List Q4) : List UInt8 :=
  titleL nm ++ codeL code code.length ++ [119, 97, 110, 116] ++ wantL want want.length ++ [10]

theorem wordL_len (x : Q4) : (wordL x).length ≤ 5 := by
  unfold wordL
  split
  · simp
  · split <;> simp
theorem wishL_len (x : Q4) : (wishL x).length ≤ 6 := by unfold wishL; split <;> simp
theorem rowL_len (row : List Q4) (j : Nat) : (rowL row j).length ≤ 6 * j := by
  induction j with
  | zero => simp [rowL]
  | succ j ih =>
    have := wordL_len (row[j]?.getD q0)
    simp only [rowL, List.length_append, List.length_cons]
    omega
theorem wantL_len (want : List Q4) (j : Nat) : (wantL want j).length ≤ 7 * j := by
  induction j with
  | zero => simp [wantL]
  | succ j ih =>
    have := wishL_len (want[j]?.getD q0)
    simp only [wantL, List.length_append, List.length_cons]
    omega
theorem codeL_len (code : List (List Q4)) (h : ∀ k : Nat, (code[k]?.getD []).length ≤ 32) (k : Nat) : (codeL code k).length ≤ 196 * k := by
  induction k with
  | zero => simp [codeL]
  | succ k ih =>
    have h1 := rowL_len (code[k]?.getD []) (code[k]?.getD []).length
    have h2 := h k
    simp only [codeL, lineL, headL, List.length_append, List.length_cons, List.length_nil]
    omega
/-- a sound test's text is short enough to be read -/
theorem printL_len {nm : List UInt8} {code : List (List Q4)} {want : List Q4} (h : sndT nm code want = true) : (printL nm code want).length ≤ 4096 := by
  unfold sndT at h
  simp only [Bool.and_eq_true, decide_eq_true_eq] at h
  obtain ⟨⟨⟨⟨⟨⟨h1, _⟩, h2⟩, h3⟩, _⟩, h4⟩, _⟩ := h
  have hr : ∀ k : Nat, (code[k]?.getD []).length ≤ 32 := by
    intro k
    by_cases hk : k < code.length
    · have := List.all_eq_true.1 h4 code[k] (List.getElem_mem hk)
      unfold sndRow at this
      simp only [Bool.and_eq_true, decide_eq_true_eq] at this
      simp [hk]
      exact this.1.2
    · simp [hk]
  have h5 := codeL_len code hr code.length
  have h6 := wantL_len want want.length
  simp only [printL, titleL, List.length_append, List.length_cons, List.length_nil]
  omega

end Go.Proofs.Ytokfiflflcfidaa
