import Derived.Test.YtokfiflflcfidabDoorRows
import Derived.Test.YtokfiflflcfidabDoorPlain
import Derived.Test.YtokfiflflcfidabDoorParse
import Derived.Test.YtokfiflflcfidabDoorMem
import Derived.Test.YtokfiflflcfidabDoorPreds
import Derived.Test.YtokfiflflcfidabDoorProgA
import Derived.Test.YtokfiflflcfidabDoorParseW
import Derived.Test.YtokfiflflcfidabDoorText
import Derived.WalkKit
import Derived.WalkSpells
import Derived.WalkLawsBesides
import Derived.Laws.IdiomStrings
namespace Go.Proofs.YtokfiflflcfidabDoor
open Go.RowKit

/-- the cells of a row of bytes -/
def bytesV (l : List UInt8) : List Value := l.map fun b => Value.int .u8 ((b.toNat : Nat) : Int)
def OwnB (w : World) (base T : Nat) (v : Value) (l : List UInt8) : Prop := w.ownsRow base T 1 v (bytesV l).length (bytesV l)

theorem OwnB.nil (w : World) (base T : Nat) : OwnB w base T (.slice none 0 0) [] := World.ownsRow_nil w base T 1
theorem bytesV_snoc (l : List UInt8) (b : UInt8) : bytesV l ++ [.int .u8 ((b.toNat : Nat) : Int)] = bytesV (l ++ [b]) := by simp [bytesV]
theorem bytesV_length (l : List UInt8) : (bytesV l).length = l.length := by simp [bytesV]
theorem OwnB.shape {w : World} {base T : Nat} {v : Value} {l : List UInt8} (h : OwnB w base T v l) (hl : 0 < l.length) :
    ∃ g cap, v = .slice (some ⟨g, 0, none⟩) l.length cap ∧ base ≤ g ∧ ∀ j (hj : j < l.length), w.cell? ((⟨g, 0, none⟩ : Addr).add j) = some (.int .u8 (l[j].toNat : Int)) := by
  have h' := h
  rcases h.2 with ⟨_, hn⟩ | ⟨g, cap, cur, rfl, hbg, hgg, _⟩
  · rw [bytesV_length] at hn; omega
  · refine ⟨g, cap, by rw [bytesV_length], hbg, fun k hk => ?_⟩
    exact h'.cells (g := g) rfl k _ (by simp [bytesV, hk])

theorem Tryd.infoByte : (Tryd.prog.info? 5).map (fun i => (i.zero, i.size, i.bytes)) = some (some (.int .u8 0), 1, 1) := by kernel_rfl

/-- 'text = append(text, b)' -/
theorem wpList_pushB {P : Program} {wr : World} {ops : Array Oper} {rest : List Oper} {o : Oper} {a : Act} {Q : Exit → Act → World → Prop} (hgd : o.guard = none) (s x : Operand) (t : TypeId)
    (ho : o.op = .call { callee := .builtin .append, args := #[s, x], argTypes := #[t, t] })
    (B base : Nat) (w0 : World) (T : TypeId) (ht : P.underlying t = some (.slice T)) (hinfo : (P.info? T).map (fun i => (i.zero, i.size, i.bytes)) = some (some (.int .u8 0), 1, 1))
    (v : Value) (l : List UInt8) (b : UInt8) (n : Int) (hn : n = ((b.toNat : Nat) : Int)) (hs : a.eval s = v) (hx : a.eval x = .slice (some ⟨wr.heap.size, 0, none⟩) 1 1)
    (hown : OwnB wr base T v l) (hlen : l.length ≤ 1000000) (hb : Below B w0 wr) (hB : B ≤ base) (hbase : base ≤ wr.heap.size)
    (h : ∀ v' w', OwnB w' base T v' (l ++ [b]) → Below B w0 w' → wr.heap.size < w'.heap.size → wpList P ops Q rest (a.put o.dst v') w') :
    wpList P ops Q (o :: rest) a (wr.alloc (.cells #[.int .u8 n] T)) := by
  subst hn
  refine wpList_push hgd s x t ho B base w0 T (.int .u8 0) 1 ht hinfo rfl v (bytesV l) (.int .u8 ((b.toNat : Nat) : Int)) rfl hs hx hown ?_ ?_ hb hB hbase ?_
  · rw [bytesV_length]; omega
  · rw [bytesV_length]; unfold maxLen; omega
  · intro v' w' h1 h2 h3
    refine h v' w' ?_ h2 h3
    rw [bytesV_snoc] at h1
    exact h1

set_option maxRecDepth 100000 in
set_option maxHeartbeats 800000 in
theorem spell_any (l : List Nat) (b off cap : Nat) (w : World) (hA : Arr w b off l) (hE : ∀ x ∈ l, x < 14) (hl : 0 < l.length) (hl2 : l.length ≤ 1000) (hT : TabN w) :
    Calls Tryd.prog 45 #[.slice (some ⟨b, off, none⟩) l.length cap] w fun r w' => r = .returned (.string ⟨(tx l).toArray⟩) ∧ Below w.heap.size w w' := by
  go_enter Tryd.func45, Tryd.ntmps45
  go_wp2
  go_loopw [3, 10] (fun v i wr => ∃ n : Nat, n ≤ l.length ∧ i = .int .i64 n ∧ OwnB wr w.heap.size 5 v (txTo l n) ∧ Below w.heap.size w wr) (fun _ i _ => l.length - (intOf i).toNat)
  case atStart => exact ⟨0, Nat.zero_le _, rfl, OwnB.nil _ _ _, Below.refl _ _⟩
  case round =>
    obtain ⟨n, hn, rfl, hown, hb⟩ := hrel
    by_cases hlt : n < l.length
    · have hc := (hA.kept hb).at hlt
      have he := getD_lt hE n
      have HS : Hid (txTo l (n + 1) = (if n = 0 then [] else txTo l n ++ [32]) ++ nmL (l[n]?.getD 0)) := rfl
      have hlen := txTo_length l n
      have hlen2 : (txTo l n).length ≤ 4000 := by omega
      clear hlen
      generalize l[n]?.getD 0 = e at *
      have hns := nm_size e
      obtain ⟨pre, hpre⟩ : ∃ pre, pre = if n = 0 then [] else txTo l n ++ [32] := ⟨_, rfl⟩
      have hprel : pre.length ≤ 4001 := by
        rw [hpre]; split
        · simp
        · simp; omega
      have HPRE : Hid _ := hpre
      clear hpre
      have HNS : Hid _ := hns
      clear hns
      have HTX : Hid (txTo l (n + 1) = pre ++ nmL e) := by show _ = _; rw [HS.out, HPRE.out]
      by_cases h0 : n = 0
      · have h0i : ¬ ((0 : Int) < (n : Int)) := by omega
        have hownP : OwnB wr w.heap.size 5 u3 pre := by rw [HPRE.out, if_pos h0]; subst h0; exact hown
        have hbP := hb
        have HZ : Hid _ := h0
        clear h0
        go_wp2_with (go_at_call 76; refine (name_any e he _ (hT.kept hbP)).mono ?_; rintro r w1 ⟨rfl, rfl⟩)
        go_loopw [3, 7] (fun v i wr2 => ∃ k : Nat, k ≤ 3 ∧ i = .int .i64 k ∧ OwnB wr2 w.heap.size 5 v (pre ++ (nmL e).take k) ∧ Below w.heap.size w wr2) (fun _ i _ => 3 - (intOf i).toNat)
        case atStart => exact ⟨0, by omega, rfl, by simpa using hownP, hbP⟩
        case round =>
          obtain ⟨k, hk, rfl, hown3, hb3⟩ := hrel
          by_cases hk3 : k < 3
          · have hkx : k < (nm e).size := by rw [HNS.out]; exact hk3
            have hkxi : (k : Int) < ((nm e).size : Int) := by omega
            have HN : Hid (pre ++ (nmL e).take (k + 1) = pre ++ (nmL e).take k ++ [(nm e)[k]]) := by
              show _ = _
              have h1 : k < (nmL e).length := by rw [nmL_length]; exact hk3
              rw [List.take_succ_eq_append_getElem h1, List.append_assoc]
              rfl
            have hln3 : (pre ++ (nmL e).take k).length ≤ 1000000 := by simp; omega
            go_wp2_with (at_builtin; go_must (refine wpList_pushB rfl _ _ 128 rfl w.heap.size w.heap.size w 5 Tryd.underlying128 Tryd.infoByte _ _ ((nm e)[k]) _ rfl (by rfl) (by rfl) hown3 hln3 hb3 (Nat.le_refl _) hb3.size ?_); intro v4 w4 hown4 hb4 _; clear hown3 hb3)
            go_roundw
            case rel => exact ⟨k + 1, by omega, by go_num, by rw [HN.out]; exact hown4, hb4⟩
            case measure => simp [intOf]; omega
          · have hkE : k = 3 := by omega
            have hdk : ¬ ((k : Int) < ((nm e).size : Int)) := by rw [HNS.out]; omega
            have hfull : (nmL e).take k = nmL e := List.take_of_length_le (by rw [nmL_length]; omega)
            have HF : Hid _ := hfull
            clear hfull hkE
            go_wp2
            go_roundw
            case rel => exact ⟨n + 1, by omega, by go_num, by rw [HTX.out, ← HF.out]; exact hown3, hb3⟩
            case measure => simp [intOf]; omega
      · have h0i : ((0 : Int) < (n : Int)) := by omega
        go_wp2_with (first | (go_at_call 76; refine (name_any e he _ (hT.kept hbP)).mono ?_; rintro r w1 ⟨rfl, rfl⟩) | (at_builtin; go_must (refine wpList_pushB rfl _ _ 128 rfl w.heap.size w.heap.size w 5 Tryd.underlying128 Tryd.infoByte _ _ 32 32 rfl (by rfl) (by rfl) hown (by omega) hb (Nat.le_refl _) hb.size ?_); intro v2 w2 hown1 hbP _; have hownP : OwnB w2 w.heap.size 5 v2 pre := (by rw [HPRE.out, if_neg h0]; exact hown1); clear hown hown1 hb hc))
        go_loopw [3, 7] (fun v i wr2 => ∃ k : Nat, k ≤ 3 ∧ i = .int .i64 k ∧ OwnB wr2 w.heap.size 5 v (pre ++ (nmL e).take k) ∧ Below w.heap.size w wr2) (fun _ i _ => 3 - (intOf i).toNat)
        case atStart => exact ⟨0, by omega, rfl, by simpa using hownP, hbP⟩
        case round =>
          obtain ⟨k, hk, rfl, hown3, hb3⟩ := hrel
          by_cases hk3 : k < 3
          · have hkx : k < (nm e).size := by rw [HNS.out]; exact hk3
            have hkxi : (k : Int) < ((nm e).size : Int) := by omega
            have HN : Hid (pre ++ (nmL e).take (k + 1) = pre ++ (nmL e).take k ++ [(nm e)[k]]) := by
              show _ = _
              have h1 : k < (nmL e).length := by rw [nmL_length]; exact hk3
              rw [List.take_succ_eq_append_getElem h1, List.append_assoc]
              rfl
            have hln3 : (pre ++ (nmL e).take k).length ≤ 1000000 := by simp; omega
            go_wp2_with (at_builtin; go_must (refine wpList_pushB rfl _ _ 128 rfl w.heap.size w.heap.size w 5 Tryd.underlying128 Tryd.infoByte _ _ ((nm e)[k]) _ rfl (by rfl) (by rfl) hown3 hln3 hb3 (Nat.le_refl _) hb3.size ?_); intro v4 w4 hown4 hb4 _; clear hown3 hb3)
            go_roundw
            case rel => exact ⟨k + 1, by omega, by go_num, by rw [HN.out]; exact hown4, hb4⟩
            case measure => simp [intOf]; omega
          · have hkE : k = 3 := by omega
            have hdk : ¬ ((k : Int) < ((nm e).size : Int)) := by rw [HNS.out]; omega
            have hfull : (nmL e).take k = nmL e := List.take_of_length_le (by rw [nmL_length]; omega)
            have HF : Hid _ := hfull
            clear hfull hkE
            go_wp2
            go_roundw
            case rel => exact ⟨n + 1, by omega, by go_num, by rw [HTX.out, ← HF.out]; exact hown3, hb3⟩
            case measure => simp [intOf]; omega
    · have hnl : n = l.length := by omega
      subst hnl
      obtain ⟨g, gc, hv, hg, hG⟩ := hown.shape (by rw [txTo_length]; omega)
      have hcv := run_convert_bytes_back (P := Tryd.prog) wr 128 9 5 ⟨g, 0, none⟩ gc (txTo l l.length) Tryd.underlying128 Tryd.underlying5 Tryd.underlying9 hG
      subst hv
      clear hG
      go_wp2
      go_ret
      exact ⟨rfl, hb⟩

end Go.Proofs.YtokfiflflcfidabDoor
