import Derived.Test.YtokfiflflcfidabDoorRows
import Derived.Test.YtokfiflflcfidabDoorParseW
import Derived.ProofKit
import Derived.LaidMore
import Derived.OpenShut
import Derived.Stop.Joined
import Derived.Stop.LaidErr
import Derived.Lib.LaidTab
namespace Go.Proofs.YtokfiflflcfidabDoor
open Go.ChangeShapes Go.WideShapes Go.ChangeAt Go.RowKit

/-- an array of one-cell elements, cell for cell -/
theorem cells_of_row {H : Type} {enc : TypeId × Value → H} {P : Program} {w : World} {base : Nat} {sp : Nat → Bool} {held : Bool} {fuel : Nat} {t e : TypeId} {n : Nat} {cs : List Value} {ds : List (DataW H)} {p : List MemPlace} (f : DataW H → Value)
    (ht : P.underlying t = some (.array n e)) (hce : P.cellsOf e = 1) (hct : P.cellsOf t = n)
    (he : ∀ fuel c x, DataW.trod enc P w base sp held fuel e c = some x → c = [f x.1])
    (h : DataW.trod enc P w base sp held fuel t cs = some (.agg ds, p)) : cs = ds.map f := by
  cases fuel with
  | zero => simp [DataW.trod] at h
  | succ fuel =>
    simp only [DataW.trod, ht, hce, hct, Nat.mul_one] at h
    split at h
    · rename_i hl
      obtain ⟨xs, hm, hx⟩ := Option.map_eq_some_iff.1 h
      have hxs : xs.map (·.1) = ds := by
        have := congrArg Prod.fst hx
        simpa using this
      have hxl : xs.length = n := by simpa using Lib.mapM_length hm
      have hzl : ds.length = n := by rw [← hxs]; simpa using hxl
      apply List.ext_getElem?
      intro i
      by_cases hi : i < n
      · obtain ⟨b, hb, hf⟩ := Lib.mapM_at hm i i (by simp [hi])
        have hc := he _ _ _ hf
        have h1 : cs[i]? = some (f b.1) := by
          have := congrArg (·[0]?) hc
          simpa [List.getElem?_take, List.getElem?_drop] using this
        rw [h1, ← hxs]
        simp [hb]
      · rw [List.getElem?_eq_none (by omega), List.getElem?_eq_none (by simp; omega)]
    · cases h

def valOf {H : Type} : DataW H → Value
  | .lit (.bool b) => .bool b
  | .lit (.string s) => .string ⟨s.toArray⟩
  | _ => .bool false

theorem valOf_bool {H : Type} {enc : TypeId × Value → H} {P : Program} {w : World} {base : Nat} {sp : Nat → Bool} {held : Bool} {e : TypeId} (he : P.underlying e = some .bool) (fuel : Nat) (c : List Value) (x : DataW H × List MemPlace) (h : DataW.trod enc P w base sp held fuel e c = some x) : c = [valOf x.1] := by
  obtain ⟨b, rfl, rfl⟩ := DataW.trod_bool he h
  rfl
theorem valOf_string {H : Type} {enc : TypeId × Value → H} {P : Program} {w : World} {base : Nat} {sp : Nat → Bool} {held : Bool} {e : TypeId} (he : P.underlying e = some .string) (fuel : Nat) (c : List Value) (x : DataW H × List MemPlace) (h : DataW.trod enc P w base sp held fuel e c = some x) : c = [valOf x.1] := by
  obtain ⟨s, rfl, rfl, _⟩ := DataW.trod_string he h
  simp [valOf]

theorem Tryd.own : ownKnob Tryd.prog.godebug = none := by kernel_rfl
theorem Tryd.laidOut : laidOutB Tryd.prog = true := by kernel_rfl
theorem gEdgeNames : Tryd.prog.globalNamed "litmus/litmus.edgeNames" = some 3 := by kernel_rfl
theorem gNames : Tryd.prog.globalNamed "litmus/litmusref.names" = some 2 := by kernel_rfl
theorem gStarts : Tryd.prog.globalNamed "litmus/litmusref.starts" = some 0 := by kernel_rfl
theorem gEnds : Tryd.prog.globalNamed "litmus/litmusref.ends" = some 1 := by kernel_rfl
theorem tEdgeNames : (Tryd.prog.globals[3]?).map (·.type) = some 93 := by kernel_rfl
theorem tNames : (Tryd.prog.globals[2]?).map (·.type) = some 93 := by kernel_rfl
theorem tStarts : (Tryd.prog.globals[0]?).map (·.type) = some 67 := by kernel_rfl
theorem tEnds : (Tryd.prog.globals[1]?).map (·.type) = some 67 := by kernel_rfl
theorem cString : Tryd.prog.cellsOf 9 = 1 := by kernel_rfl
theorem cBool : Tryd.prog.cellsOf 4 = 1 := by kernel_rfl
theorem cStrings : Tryd.prog.cellsOf 93 = 14 := by kernel_rfl
theorem cBools : Tryd.prog.cellsOf 67 = 14 := by kernel_rfl

theorem tab_cell {P : Program} {W : World} {name : String} {g : Nat} {cs : Array Value} {vs : List Value} (hg : P.globalNamed name = some g) (hv : W.var? P name = some cs) (hcs : cs.toList = vs) (i : Nat) (u : Value) (hu : vs[i]? = some u) : W.cell? ⟨g, i, none⟩ = some u := by
  have := World.var?_cell hg hv i
  rw [this, ← hcs] at *
  simpa using hu

theorem names_at : ∀ e, e < 14 → (([.lit (.string [67, 111, 101]), .lit (.string [67, 111, 105]), .lit (.string [70, 82, 82]), .lit (.string [70, 82, 87]), .lit (.string [70, 87, 82]), .lit (.string [70, 87, 87]), .lit (.string [70, 114, 101]), .lit (.string [70, 114, 105]), .lit (.string [80, 82, 82]), .lit (.string [80, 82, 87]), .lit (.string [80, 87, 82]), .lit (.string [80, 87, 87]), .lit (.string [82, 102, 101]), .lit (.string [82, 102, 105])] : List (DataW Unit)).map valOf)[e]? = some (.string (nm e)) := by
  intro e he
  rcases cases14 he with rfl | rfl | rfl | rfl | rfl | rfl | rfl | rfl | rfl | rfl | rfl | rfl | rfl | rfl <;> rfl
theorem starts_at : ∀ e, e < 14 → (([.lit (.bool true), .lit (.bool true), .lit (.bool false), .lit (.bool false), .lit (.bool true), .lit (.bool true), .lit (.bool false), .lit (.bool false), .lit (.bool false), .lit (.bool false), .lit (.bool true), .lit (.bool true), .lit (.bool true), .lit (.bool true)] : List (DataW Unit)).map valOf)[e]? = some (.bool (bW e)) := by
  intro e he
  rcases cases14 he with rfl | rfl | rfl | rfl | rfl | rfl | rfl | rfl | rfl | rfl | rfl | rfl | rfl | rfl <;> rfl
theorem ends_at : ∀ e, e < 14 → (([.lit (.bool true), .lit (.bool true), .lit (.bool false), .lit (.bool true), .lit (.bool false), .lit (.bool true), .lit (.bool true), .lit (.bool true), .lit (.bool false), .lit (.bool true), .lit (.bool false), .lit (.bool true), .lit (.bool false), .lit (.bool false)] : List (DataW Unit)).map valOf)[e]? = some (.bool (eW e)) := by
  intro e he
  rcases cases14 he with rfl | rfl | rfl | rfl | rfl | rfl | rfl | rfl | rfl | rfl | rfl | rfl | rfl | rfl <;> rfl

/-- what the four listed variables give -/
theorem tabs_of_laid {W : World} (h : laidMetH Tryd.prog [("litmus/litmus.edgeNames", Rows.laid_litmus_litmus_edgeNames), ("litmus/litmusref.names", Rows.laid_litmus_litmusref_names), ("litmus/litmusref.starts", Rows.laid_litmus_litmusref_starts), ("litmus/litmusref.ends", Rows.laid_litmus_litmusref_ends)] W) : TabN W ∧ TabR W := by
  rw [MakeChecks.laidMetH_plain _ _ _ (by kernel_rfl)] at h
  obtain ⟨ps, ⟨g0, t0, cs0, f0, p0, q0, hg0, ht0, hv0, hd0, ⟨g1, t1, cs1, f1, p1, q1, hg1, ht1, hv1, hd1, ⟨g2, t2, cs2, f2, p2, q2, hg2, ht2, hv2, hd2, ⟨g3, t3, cs3, f3, p3, q3, hg3, ht3, hv3, hd3, _, _⟩, _⟩, _⟩, _⟩, _, _⟩ := h
  obtain rfl := Option.some.inj (gEdgeNames.symm.trans hg0)
  obtain rfl := Option.some.inj (gNames.symm.trans hg1)
  obtain rfl := Option.some.inj (gStarts.symm.trans hg2)
  obtain rfl := Option.some.inj (gEnds.symm.trans hg3)
  obtain rfl := Option.some.inj (tEdgeNames.symm.trans ht0)
  obtain rfl := Option.some.inj (tNames.symm.trans ht1)
  obtain rfl := Option.some.inj (tStarts.symm.trans ht2)
  obtain rfl := Option.some.inj (tEnds.symm.trans ht3)
  have k0 := cells_of_row valOf Tryd.underlying93 cString cStrings (valOf_string Tryd.underlying9) hd0
  have k1 := cells_of_row valOf Tryd.underlying93 cString cStrings (valOf_string Tryd.underlying9) hd1
  have k2 := cells_of_row valOf Tryd.underlying67 cBool cBools (valOf_bool Tryd.underlying4) hd2
  have k3 := cells_of_row valOf Tryd.underlying67 cBool cBools (valOf_bool Tryd.underlying4) hd3
  have c0 := fun e he => tab_cell gEdgeNames hv0 k0 e _ (names_at e he)
  have c1 := fun e he => tab_cell gNames hv1 k1 e _ (names_at e he)
  have c2 := fun e he => tab_cell gStarts hv2 k2 e _ (starts_at e he)
  have c3 := fun e he => tab_cell gEnds hv3 k3 e _ (ends_at e he)
  exact ⟨⟨World.block_lt_of_cell? W _ (c0 0 (by omega)), c0⟩, ⟨World.block_lt_of_cell? W _ (c2 0 (by omega)), World.block_lt_of_cell? W _ (c3 0 (by omega)), World.block_lt_of_cell? W _ (c1 0 (by omega)), c2, c3, c1⟩⟩

theorem tabN_of_laid {W : World} (h : laidMetH Tryd.prog [("litmus/litmus.edgeNames", Rows.laid_litmus_litmus_edgeNames)] W) : TabN W := by
  rw [MakeChecks.laidMetH_plain _ _ _ (by kernel_rfl)] at h
  obtain ⟨ps, ⟨g0, t0, cs0, f0, p0, q0, hg0, ht0, hv0, hd0, _, _⟩, _⟩ := h
  obtain rfl := Option.some.inj (gEdgeNames.symm.trans hg0)
  obtain rfl := Option.some.inj (tEdgeNames.symm.trans ht0)
  have k0 := cells_of_row valOf Tryd.underlying93 cString cStrings (valOf_string Tryd.underlying9) hd0
  have c0 := fun e he => tab_cell gEdgeNames hv0 k0 e _ (names_at e he)
  exact ⟨World.block_lt_of_cell? W _ (c0 0 (by omega)), c0⟩

end Go.Proofs.YtokfiflflcfidabDoor
