/-
  What the rows' lists give the walks of calls read and written: the program's two tables, the library's number MaxLen; worlds that meet the lists.
-/
import Derived.Test.YtacfhchmoiphfaaDoorScrLaid
import Derived.Test.YtacfhchmoiphfaaDoorScrSay
import Derived.Shelf.Vars
namespace Go.Proofs.YtacfhchmoiphfaaDoor.scr
open Go.RowKit Go.Deep Go.Sort
open Go.Proofs.YtacfhchmoiphfaaDoor
set_option linter.unusedVariables false
set_option maxRecDepth 100000

theorem trod_array {H : Type} {enc : TypeId × Value → H} {P : Program} {w : World} {base : Nat} {sp : Nat → Bool} {held : Bool} {fuel t e n : Nat} {cs : List Value} {x : DataW H × List MemPlace} (ht : P.underlying t = some (.array n e))
    (h : DataW.trod enc P w base sp held fuel t cs = some x) : ∃ (xs : List (DataW H × List MemPlace)) (m : Nat), x = (.agg (xs.map (·.1)), xs.flatMap (·.2)) ∧ xs.length = n ∧ ∀ i, i < n → DataW.trod enc P w base sp held m e ((cs.drop (i * P.cellsOf e)).take (P.cellsOf e)) = xs[i]? := by
  cases fuel with
  | zero => simp [DataW.trod] at h
  | succ m =>
    simp only [DataW.trod, ht] at h
    split at h
    · obtain ⟨xs, hm, hx⟩ := Option.map_eq_some_iff.1 h
      refine ⟨xs, m, hx.symm, by simpa using Lib.mapM_length hm, fun i hi => ?_⟩
      obtain ⟨b, hb, hf⟩ := Lib.mapM_at hm i i (by simp [hi])
      rw [hb]; exact hf
    · cases h
theorem str_at {H : Type} {enc : TypeId × Value → H} {w : World} {base : Nat} {sp : Nat → Bool} {held : Bool} {m : Nat} {cs : List Value} {y : DataW H × List MemPlace} {t : ByteArray} (h : DataW.trod enc Tryd.prog w base sp held m 9 cs = some y) (hy : y.1 = .lit (.string (bl t))) : cs = [.string t] := by
  obtain ⟨s, hc, rfl, _⟩ := DataW.trod_string Tryd.underlying9 h
  simp only [DataW.lit.injEq, Lit.string.injEq] at hy
  rw [hc, bl_inj (show bl s = bl t from hy)]
def sayD (k : Nat) : DataW Unit := .agg [.lit (.string (bl (nameB (k : Int)))), .lit (.string (bl (takesB (k : Int))))]
theorem say_datum : (Rows.laid_loop_example_g00740_impl_sayings : DataW Unit) = .agg ((List.range 13).map sayD) := by kernel_rfl
theorem kind_datum : (Rows.laid_loop_example_g00740_impl_kindNames : DataW Unit) = .agg ((List.range 4).map fun k : Nat => .lit (.string (bl (kindB (k : Int))))) := by kernel_rfl
theorem gsay : Tryd.prog.globalNamed "loop.example/g00740/impl.sayings" = some 0 := by kernel_rfl
theorem gkind : Tryd.prog.globalNamed "loop.example/g00740/impl.kindNames" = some 1 := by kernel_rfl
theorem say_ty : (Tryd.prog.globals[0]?).map (·.type) = some 88 := by kernel_rfl
theorem kind_ty : (Tryd.prog.globals[1]?).map (·.type) = some 118 := by kernel_rfl
theorem cells_say : Tryd.prog.cellsOf 87 = 2 := by kernel_rfl
theorem cells_str : Tryd.prog.cellsOf 9 = 1 := by kernel_rfl
theorem kinds_of {W : World} {r : List (String × DataW Unit)} (h : laidMet Tryd.prog (("loop.example/g00740/impl.kindNames", Rows.laid_loop_example_g00740_impl_kindNames) :: r) W) : ∀ k : Nat, k < 4 → W.cell? ⟨1, k, none⟩ = some (.string (kindB (k : Int))) := by
  obtain ⟨ps, ⟨g, t, cs, fuel, p, q, hg, ht, hvar, hd, _, _⟩, _⟩ := h
  obtain rfl := Option.some.inj (gkind.symm.trans hg)
  obtain rfl := Option.some.inj (kind_ty.symm.trans ht)
  rw [kind_datum] at hd
  obtain ⟨xs, m, hx, hl, hall⟩ := trod_array Tryd.underlying118 hd
  simp only [Prod.mk.injEq, DataW.agg.injEq] at hx
  intro k hk
  have h1 := hall k hk
  rw [cells_str] at h1
  rw [List.getElem?_eq_getElem (by omega)] at h1
  have h2 : (xs[k]'(by omega)).1 = .lit (.string (bl (kindB (k : Int)))) := by
    have : (xs.map (·.1))[k]? = ((List.range 4).map fun k : Nat => (DataW.lit (.string (bl (kindB (k : Int)))) : DataW Unit))[k]? := by rw [← hx.1]
    rw [List.getElem?_map, List.getElem?_eq_getElem (by omega), List.getElem?_map, List.getElem?_range hk] at this
    simpa using this
  have h3 := str_at h1 h2
  have h4 : cs.toList[k]? = some (.string (kindB (k : Int))) := by
    have := congrArg (·[0]?) h3
    simpa [List.getElem?_take, List.getElem?_drop] using this
  have h5 := World.var?_cell gkind hvar k
  rw [h5]
  simpa using h4
theorem says_of {W : World} {r : List (String × DataW Unit)} (h : laidMet Tryd.prog (("loop.example/g00740/impl.sayings", Rows.laid_loop_example_g00740_impl_sayings) :: r) W) : ∀ k : Nat, k < 13 → W.cell? ⟨0, k * 2, none⟩ = some (.string (nameB (k : Int))) ∧ W.cell? ⟨0, k * 2 + 1, none⟩ = some (.string (takesB (k : Int))) := by
  obtain ⟨ps, ⟨g, t, cs, fuel, p, q, hg, ht, hvar, hd, _, _⟩, _⟩ := h
  obtain rfl := Option.some.inj (gsay.symm.trans hg)
  obtain rfl := Option.some.inj (say_ty.symm.trans ht)
  rw [say_datum] at hd
  obtain ⟨xs, m, hx, hl, hall⟩ := trod_array Tryd.underlying88 hd
  simp only [Prod.mk.injEq, DataW.agg.injEq] at hx
  intro k hk
  have h1 := hall k hk
  rw [cells_say] at h1
  rw [List.getElem?_eq_getElem (by omega)] at h1
  have h2 : (xs[k]'(by omega)).1 = sayD k := by
    have : (xs.map (·.1))[k]? = ((List.range 13).map sayD)[k]? := by rw [← hx.1]
    rw [List.getElem?_map, List.getElem?_eq_getElem (by omega), List.getElem?_map, List.getElem?_range hk] at this
    simpa using this
  obtain ⟨ys, m2, _, hy, hl2, hys, hf⟩ := DataW.trod_struct Tryd.underlying87 h1
  have h3 : ys.map (·.1) = [.lit (.string (bl (nameB (k : Int)))), .lit (.string (bl (takesB (k : Int))))] := by
    have := congrArg (·.1) hy
    rw [h2] at this
    simpa [sayD] using this.symm
  obtain ⟨y0, y1, rfl⟩ : ∃ y0 y1, ys = [y0, y1] := by
    match ys, hys with
    | [a, b], _ => exact ⟨a, b, rfl⟩
  simp only [List.map_cons, List.map_nil, List.cons.injEq, and_true] at h3
  have f0 := hf 0 _ rfl
  have f1 := hf 1 _ rfl
  have f0' : DataW.trod (fun _ => ()) Tryd.prog W 0 (fun _ => true) false m2 9 (List.take 1 (List.drop 0 (List.take 2 (List.drop (k * 2) cs.toList)))) = some y0 := by rw [← cells_str]; exact f0
  have f1' : DataW.trod (fun _ => ()) Tryd.prog W 0 (fun _ => true) false m2 9 (List.take 1 (List.drop 1 (List.take 2 (List.drop (k * 2) cs.toList)))) = some y1 := by
    have : List.take 1 (List.drop 1 (List.take 2 (List.drop (k * 2) cs.toList))) = List.take (Tryd.prog.cellsOf 9) (List.drop 1 (List.take 2 (List.drop (k * 2) cs.toList))) := by rw [cells_str]
    rw [this]; exact f1
  have g0 := str_at f0' h3.1
  have g1 := str_at f1' h3.2
  have e0 : cs.toList[k * 2]? = some (.string (nameB (k : Int))) := by
    have := congrArg (·[0]?) g0
    simpa [List.getElem?_take, List.getElem?_drop] using this
  have e1 : cs.toList[k * 2 + 1]? = some (.string (takesB (k : Int))) := by
    have := congrArg (·[0]?) g1
    simpa [List.getElem?_take, List.getElem?_drop] using this
  rw [World.var?_cell gsay hvar (k * 2), World.var?_cell gsay hvar (k * 2 + 1)]
  exact ⟨by simpa using e0, by simpa using e1⟩
theorem some_int {W : World} (h : World.ShapedOpen Tryd.prog W) : ∃ m, W.cell? ⟨3, 0, none⟩ = some (.int .i64 m) := Go.Proofs.cell_of_shapedOpen_int (zero := #[.int .i64 0]) (t := 3) h (of_decide_eq_true (by kernel_rfl)) (by kernel_rfl) rfl (by kernel_rfl) (by kernel_rfl) Tryd.underlying3
/-- the two tables out of a list, the library's number out of the world's shape -/
theorem say_of {W : World} {r : List (String × DataW Unit)} (h : laidMet Tryd.prog (("loop.example/g00740/impl.sayings", Rows.laid_loop_example_g00740_impl_sayings) :: ("loop.example/g00740/impl.kindNames", Rows.laid_loop_example_g00740_impl_kindNames) :: r) W) (hsh : World.ShapedOpen Tryd.prog W) : Say W :=
  ⟨fun k hk => (says_of h k hk).1, fun k hk => (says_of h k hk).2, kinds_of h.tail, some_int hsh⟩
/-- a datum's cells -/
def flatN : Nat → DataW Unit → List Value
  | _, .lit (.int k n) => [.int k n]
  | _, .lit (.string l) => [.string ⟨l.toArray⟩]
  | f + 1, .agg xs => xs.flatMap (flatN f)
  | _, _ => []
/-- the settled world, all listed variables laid -/
noncomputable def laidWorld2 (os : Os) : World :=
  let w0 := laidWorld os
  { w0 with heap := put (put (put (put w0.heap 0 (flatN 3 Rows.laid_loop_example_g00740_impl_sayings)) 1 (flatN 3 Rows.laid_loop_example_g00740_impl_kindNames)) 5 (flatN 3 Rows.laid_unicode_utf8_acceptRanges)) 4 (flatN 3 Rows.laid_unicode_utf8_first) }
theorem met_scriptf (os : Os) (args : Array Value) : laidMet Tryd.prog Rows.fnExactScriptFaultRow.laid ((laidWorld2 os).forCall (fun _ _ => 0) ⟨#[], args, []⟩).memory :=
  laidMet_of_run' 8 (by kernel_rfl) (by kernel_rfl)
end Go.Proofs.YtacfhchmoiphfaaDoor.scr
