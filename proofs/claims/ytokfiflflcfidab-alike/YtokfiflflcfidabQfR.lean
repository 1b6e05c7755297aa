import Derived.Test.YtokfiflflcfidabSndT
import Derived.Test.YtokfiflflcfidabStM
namespace Go.Proofs.Ytokfiflflcfidab
open Go.RowKit

/-- an instruction, a claim of a sound test -/
def toI (x : Q4) : RIns := ⟨x.a.toNat, x.b.toNat, x.c.toNat, x.d.toNat⟩
def toC (x : Q4) : RCl := ⟨x.a, x.b.toNat, x.c.toNat, x.d.toNat⟩
def codeR (code : List (List Q4)) : List (List RIns) := code.map fun l => l.map toI
def wantR (want : List Q4) : List RCl := want.map toC
theorem sndI_nat {x : Q4} (h : sndI x = true) : ((x.a.toNat : Int) = x.a ∧ (x.b.toNat : Int) = x.b ∧ (x.c.toNat : Int) = x.c ∧ (x.d.toNat : Int) = x.d) ∧ x.b.toNat < 16 ∧ x.c.toNat < 16 ∧ (x.a.toNat = 1 ∨ x.a.toNat = 2 ∨ x.a.toNat = 3) := by
  unfold sndI at h
  rw [Bool.and_eq_true, decide_eq_true_iff] at h
  obtain ⟨h1, h2⟩ := h
  have ha : x.a = 1 ∨ x.a = 2 ∨ x.a = 3 := by
    simp only [Bool.or_eq_true, Bool.and_eq_true, beq_iff_eq] at h2
    rcases h2 with (h2 | h2) | h2
    · exact Or.inl h2.1
    · exact Or.inr (Or.inl h2.1)
    · exact Or.inr (Or.inr h2.1.1.1)
  omega
theorem sndK_nat {n : Nat} {x : Q4} (h : sndK n x = true) : ((x.b.toNat : Int) = x.b ∧ (x.c.toNat : Int) = x.c ∧ (x.d.toNat : Int) = x.d) ∧ (-1 ≤ x.a ∧ x.a < (n : Int)) ∧ x.b.toNat < 16 ∧ x.c.toNat < 16 := by
  unfold sndK at h
  rw [Bool.and_eq_true, decide_eq_true_iff] at h
  obtain ⟨h1, h2⟩ := h
  simp only [Bool.or_eq_true, Bool.and_eq_true, beq_iff_eq, decide_eq_true_iff] at h2
  rcases h2 with h2 | h2 <;> omega
theorem sndT_parts {nm : List UInt8} {code : List (List Q4)} {want : List Q4} (h : sndT nm code want = true) : 0 < code.length ∧ code.length ≤ 16 ∧ want.length ≤ 32 ∧ (∀ l ∈ code, sndRow l = true) ∧ ∀ x ∈ want, sndK code.length x = true := by
  unfold sndT at h
  simp only [Bool.and_eq_true, decide_eq_true_iff, List.all_eq_true] at h
  exact ⟨h.1.1.1.1.1.2, h.1.1.1.1.2, h.1.1.1.2, h.1.2, h.2⟩
theorem sndRow_parts {l : List Q4} (h : sndRow l = true) : 0 < l.length ∧ l.length ≤ 32 ∧ ∀ x ∈ l, sndI x = true := by
  unfold sndRow at h
  simp only [Bool.and_eq_true, decide_eq_true_iff, List.all_eq_true] at h
  exact ⟨h.1.1, h.1.2, h.2⟩
theorem getD_mem {α : Type} {l : List α} {i : Nat} (d : α) (h : i < l.length) : l[i]?.getD d ∈ l := by rw [List.getElem?_eq_getElem h]; exact List.getElem_mem _
theorem getD_mapQ {α β : Type} (f : α → β) (l : List α) (i : Nat) (d : α) (e : β) (h : i < l.length) : (l.map f)[i]?.getD e = f (l[i]?.getD d) := by simp [h]
theorem codeR_length (code : List (List Q4)) : (codeR code).length = code.length := by simp [codeR]
theorem codeR_at (code : List (List Q4)) {k : Nat} (h : k < code.length) : (codeR code)[k]?.getD [] = (code[k]?.getD []).map toI := getD_mapQ (fun l : List Q4 => l.map toI) code k [] [] h

theorem sndC_of {nm : List UInt8} {code : List (List Q4)} {want : List Q4} (h : sndT nm code want = true) : SndC (codeR code) := by
  obtain ⟨h1, h2, _, h4, _⟩ := sndT_parts h
  refine ⟨by rw [codeR_length]; exact h1, by rw [codeR_length]; exact h2, fun k hk => ?_⟩
  rw [codeR_length] at hk
  obtain ⟨r1, r2, r3⟩ := sndRow_parts (h4 _ (getD_mem [] hk))
  rw [codeR_at code hk, List.length_map]
  refine ⟨r1, r2, fun i hi => ?_⟩
  have hx := sndI_nat (r3 _ (getD_mem q0 hi))
  have e : insOf (codeR code) k i = toI ((code[k]?.getD [])[i]?.getD q0) := by unfold insOf; rw [codeR_at code hk]; exact getD_mapQ toI _ i q0 rins0 hi
  rw [e]
  exact ⟨hx.2.1, hx.2.2.1, hx.2.2.2⟩
theorem sndW_of {nm : List UInt8} {code : List (List Q4)} {want : List Q4} (h : sndT nm code want = true) : SndW (codeR code).length (wantR want) := by
  obtain ⟨_, _, h3, _, h5⟩ := sndT_parts h
  have hl : (wantR want).length = want.length := by simp [wantR]
  refine ⟨by omega, fun i hi => ?_⟩
  rw [hl] at hi
  have hx := sndK_nat (h5 _ (getD_mem q0 hi))
  have e : (wantR want)[i]?.getD rcl0 = toC (want[i]?.getD q0) := getD_mapQ toC want i q0 rcl0 hi
  rw [e, codeR_length]
  exact ⟨hx.2.1, hx.2.2.1, hx.2.2.2⟩
theorem codeRd_of {lo hi : Nat} {w : World} {v : Value} {l : List Q4} (h : Rd4 lo hi w v l) (hhi : hi ≤ w.heap.size) (hs : sndRow l = true) : CodeRd w v (l.map toI) := by
  obtain ⟨r1, _, r3⟩ := sndRow_parts hs
  obtain ⟨a, cap, rfl, h1⟩ := h
  obtain ⟨b, off, rfl, _, h2, _⟩ := h1 0 r1
  refine ⟨by rw [List.length_map]; exact r1, b, off, cap, by rw [List.length_map], by omega, fun i hi => ?_⟩
  rw [List.length_map] at hi
  obtain ⟨b', off', he, _, _, hat⟩ := h1 i hi
  simp only [Option.some.injEq, Addr.mk.injEq, and_true] at he
  obtain ⟨rfl, rfl⟩ := he
  rw [getD_mapQ toI l i q0 rins0 hi]
  have hx := (sndI_nat (r3 _ (getD_mem q0 hi))).1
  refine ⟨?_, ?_, ?_, ?_⟩
  · show _ = some (Value.int .i64 (((l[i]?.getD q0).a.toNat : Nat) : Int)); rw [hx.1]; exact hat.f0
  · show _ = some (Value.int .i64 (((l[i]?.getD q0).b.toNat : Nat) : Int)); rw [hx.2.1]; exact hat.f1
  · show _ = some (Value.int .i64 (((l[i]?.getD q0).c.toNat : Nat) : Int)); rw [hx.2.2.1]; exact hat.f2
  · show _ = some (Value.int .i64 (((l[i]?.getD q0).d.toNat : Nat) : Int)); rw [hx.2.2.2]; exact hat.f3
theorem codesRd_of {lo hi : Nat} {w : World} {v : Value} {nm : List UInt8} {code : List (List Q4)} {want : List Q4} (h : Rd44 lo hi w v code) (hhi : hi ≤ w.heap.size) (hs : sndT nm code want = true) : CodesRd w v (codeR code) := by
  obtain ⟨h1, _, _, h4, _⟩ := sndT_parts hs
  obtain ⟨a, cap, rfl, hr⟩ := h
  obtain ⟨b, off, _, rfl, _, h2, _, _⟩ := hr 0 h1
  refine ⟨by rw [codeR_length]; exact h1, b, off, cap, by rw [codeR_length], by omega, fun k hk => ?_⟩
  rw [codeR_length] at hk
  obtain ⟨b', off', vk, he, _, _, hc, hrow⟩ := hr k hk
  simp only [Option.some.injEq, Addr.mk.injEq, and_true] at he
  obtain ⟨rfl, rfl⟩ := he
  rw [codeR_at code hk]
  exact ⟨vk, hc, codeRd_of hrow hhi (h4 _ (getD_mem [] hk))⟩
theorem wantRd_of {lo hi : Nat} {w : World} {v : Value} {nm : List UInt8} {code : List (List Q4)} {want : List Q4} (h : Rd4 lo hi w v want) (hhi : hi ≤ w.heap.size) (hs : sndT nm code want = true) : WantRd w v (wantR want) := by
  obtain ⟨_, _, _, _, h5⟩ := sndT_parts hs
  obtain ⟨a, cap, rfl, h1⟩ := h
  have hl : (wantR want).length = want.length := by simp [wantR]
  refine ⟨a, cap, by rw [hl], fun i hi => ?_⟩
  rw [hl] at hi
  obtain ⟨b, off, he, _, h2, hat⟩ := h1 i hi
  have e : (wantR want)[i]?.getD rcl0 = toC (want[i]?.getD q0) := getD_mapQ toC want i q0 rcl0 hi
  have hx := (sndK_nat (h5 _ (getD_mem q0 hi))).1
  rw [e]
  refine ⟨b, off, he, by omega, hat.f0, ?_, ?_, ?_⟩
  · show _ = some (Value.int .i64 (((want[i]?.getD q0).b.toNat : Nat) : Int)); rw [hx.1]; exact hat.f1
  · show _ = some (Value.int .i64 (((want[i]?.getD q0).c.toNat : Nat) : Int)); rw [hx.2.1]; exact hat.f2
  · show _ = some (Value.int .i64 (((want[i]?.getD q0).d.toNat : Nat) : Int)); rw [hx.2.2]; exact hat.f3

end Go.Proofs.Ytokfiflflcfidab
