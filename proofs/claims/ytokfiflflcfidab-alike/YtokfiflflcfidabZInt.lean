import Derived.Test.YtokfiflflcfidabRows
import Derived.Test.YtokfiflflcfidabMem
import Derived.Test.YtokfiflflcfidabScr
import Derived.WalkKit
import Derived.WalkSpells
import Derived.WalkLawsBesides
import Derived.RegionTactic
import Derived.BigRegion
import Derived.Deep.QuietTactic
import Derived.BigQuiet
namespace Go.Proofs.Ytokfiflflcfidab
open Go.RowKit

def intsV (l : List Int) : List Value := l.map (Value.int .i64)
theorem intsV_length (l : List Int) : (intsV l).length = l.length := by simp [intsV]
/-- numbers of the call's own -/
def OwnZ (w : World) (base T : Nat) (v : Value) (l : List Int) : Prop := w.ownsRow base T 1 v (intsV l).length (intsV l)
theorem OwnZ.nil (w : World) (base T : Nat) : OwnZ w base T (.slice none 0 0) [] := World.ownsRow_nil w base T 1
theorem wpList_pushZ {P : Program} {wr : World} {ops : Array Oper} {rest : List Oper} {o : Oper} {a : Act} {Q : Exit → Act → World → Prop} (hgd : o.guard = none) (s x : Operand) (t : TypeId)
    (ho : o.op = .call { callee := .builtin .append, args := #[s, x], argTypes := #[t, t] })
    (B base : Nat) (w0 : World) (T : TypeId) (ht : P.underlying t = some (.slice T)) (hinfo : (P.info? T).map (fun i => (i.zero, i.size, i.bytes)) = some (some (.int .i64 0), 1, 8))
    (v : Value) (l : List Int) (e : Int) (hs : a.eval s = v) (hx : a.eval x = .slice (some ⟨wr.heap.size, 0, none⟩) 1 1)
    (hown : OwnZ wr base T v l) (hlen : l.length + 1 ≤ 17592186044416) (hb : Below B w0 wr) (hB : B ≤ base) (hbase : base ≤ wr.heap.size)
    (h : ∀ v' w', OwnZ w' base T v' (l ++ [e]) → Below B w0 w' → wr.heap.size < w'.heap.size → wpList P ops Q rest (a.put o.dst v') w') :
    wpList P ops Q (o :: rest) a (wr.alloc (.cells #[.int .i64 e] T)) := by
  refine wpList_push hgd s x t ho B base w0 T (.int .i64 0) 8 ht hinfo rfl v (intsV l) (.int .i64 e) rfl hs hx hown (by rw [intsV_length]; omega) (by rw [intsV_length]; unfold maxLen; omega) hb hB hbase ?_
  intro v' w' h1 h2 h3
  refine h v' w' ?_ h2 h3
  unfold OwnZ
  have : intsV (l ++ [e]) = intsV l ++ [.int .i64 e] := by simp [intsV]
  rw [this]
  exact h1
theorem OwnZ.scr {w : World} {base T : Nat} {v : Value} {l : List Int} (h : OwnZ w base T v l) (hr : ∀ i : Nat, i < l.length → (-9223372036854775808 ≤ l[i]?.getD 0 ∧ l[i]?.getD 0 ≤ 9223372036854775807)) : ScrRd w v l := by
  have h' : w.ownsRow base T 1 v (intsV l).length (intsV l) := h
  rcases h.2 with ⟨rfl, hn⟩ | ⟨g, cap, cur, rfl, hbg, hgg, hcap, _⟩
  · rw [intsV_length] at hn
    exact ⟨none, 0, by rw [hn], fun i hi => by omega⟩
  · refine ⟨some ⟨g, 0, none⟩, cap, by rw [intsV_length], fun i hi => ⟨g, 0, rfl, (Array.getElem?_eq_some_iff.1 hgg).1, ?_, hr i hi⟩⟩
    have := h'.cells (g := g) rfl i (.int .i64 (l[i]?.getD 0)) (by simp [intsV, hi])
    have hadd : (⟨g, 0, none⟩ : Addr).add i = ⟨g, 0 + i, none⟩ := by unfold Addr.add; split <;> simp_all
    rw [hadd] at this
    exact this
theorem OwnZ.len {w : World} {base T : Nat} {v : Value} {l : List Int} (h : OwnZ w base T v l) : ∃ a c, v = .slice a l.length c := by
  rcases h.2 with ⟨rfl, hn⟩ | ⟨g, cap, cur, rfl, hbg, hgg, hcap, _⟩
  · rw [intsV_length] at hn
    exact ⟨none, 0, by rw [hn]⟩
  · exact ⟨_, cap, by rw [intsV_length]⟩
theorem take_snocZ (l : List Int) (n : Nat) (h : n < l.length) : l.take (n + 1) = l.take n ++ [l[n]?.getD 0] := by
  rw [List.take_succ_eq_append_getElem h]; simp [h]
theorem Try.infoIntZ : (Try.prog.info? 3).map (fun i => (i.zero, i.size, i.bytes)) = some (some (.int .i64 0), 1, 8) := by kernel_rfl

set_option maxRecDepth 100000 in
set_option maxHeartbeats 400000 in
/-- equal lists -/
theorem sameIntsZ (l : List Int) (v u : Value) (w : World) (h : ScrRd w v l) (k : ScrRd w u l) (hl : l.length ≤ 9223372036854775807) :
    Calls Try.prog 14 #[v, u] w fun r w' => r = .returned (.bool true) ∧ ∃ m, w' = w.drewN m := by
  obtain ⟨a, ca, rfl, hA⟩ := h
  obtain ⟨b, cb, rfl, hB⟩ := k
  have HA : Hid _ := hA
  have HB : Hid _ := hB
  clear hA hB
  obtain ⟨n, hn⟩ : ∃ n, l.length = n := ⟨_, rfl⟩
  rw [hn] at HA HB hl ⊢
  clear hn
  go_enter Try.func14, Try.ntmps14
  go_wp2
  go_loopw [5] (fun i wr => ∃ k : Nat, k ≤ n ∧ i = .int .i64 k ∧ ∃ m, wr = w.drewN m) (fun i _ => n - (intOf i).toNat)
  case atStart => exact ⟨0, Nat.zero_le _, rfl, 0, rfl⟩
  case round =>
    obtain ⟨k, hk, rfl, m, rfl⟩ := hrel
    by_cases hlt : k < n
    · obtain ⟨b1, o1, rfl, _, h1, _⟩ := HA.out k hlt
      obtain ⟨b2, o2, rfl, _, h2, _⟩ := HB.out k hlt
      generalize l[k]?.getD 0 = x at *
      go_wp2
      go_quiet (fail)
      go_wp2
      go_roundw
      case rel => exact ⟨k + 1, by omega, by go_num, _, rfl⟩
      case measure => simp [intOf]; omega
    · go_wp2
      go_ret
      exact ⟨rfl, _, rfl⟩

end Go.Proofs.Ytokfiflflcfidab
