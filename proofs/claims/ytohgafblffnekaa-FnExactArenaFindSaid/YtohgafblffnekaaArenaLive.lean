/-
  The program's map of what is Live: what it holds, told by a function of full names.
-/
import Derived.Test.YtohgafblffnekaaArena
import Derived.Maps.OwnSet
import Derived.Maps.RangeWalk
import Derived.Maps.Ext
import Derived.DeepKeys4
import Derived.Below
namespace Go.Proofs.Ytohgafblffnekaa.deep
open Go.RowKit Go.Deep Go.Maps
open Go.Proofs.Ytohgafblffnekaa
set_option linter.unusedVariables false

theorem laidOutL : laidOutB Try.prog = true := by kernel_rfl
theorem rowK : (86 : TypeId) < Try.prog.types.size := of_decide_eq_true (by kernel_rfl)
theorem wideK : (match Try.prog.underlying 86 with | some (.array _ _) | some (.struct _) => true | _ => false) = true := by kernel_rfl
set_option maxRecDepth 100000 in
theorem lawK : Keyed Try.prog 86 := Keyed.of_law (deep_law_laid laidOutL (m := 3) (by omega) rowK (by kernel_rfl) wideK)
theorem underM : Try.prog.underlying 75 = some (.map 86 83) := by kernel_rfl
theorem underI : Try.prog.underlying 2 = some (.int .i64) := by kernel_rfl
theorem underK : Try.prog.underlying 86 = some (.array 3 2) := by kernel_rfl
def zeroS : Value := .agg #[.int .i64 0, .nilIface]
theorem zeroE (w : World) : (zeroValue 83).run Try.prog w = .ok zeroS w := by kernel_rfl
theorem keyT : Try.prog.keyType 86 = true := by kernel_rfl
theorem cellsK : Try.prog.cellsOf 86 = 3 := by kernel_rfl
theorem cellsI : Try.prog.cellsOf 2 = 1 := by kernel_rfl

/-- a full name's value -/
abbrev keyV (x : Thd) : Value := .agg #[.int .i64 x.1, .int .i64 x.2.1, .int .i64 x.2.2]
def Wf3 (x : Thd) : Prop := (Lit.int .i64 x.1).wf = true ∧ (Lit.int .i64 x.2.1).wf = true ∧ (Lit.int .i64 x.2.2).wf = true
theorem lit_mk (m : Nat) (a : Int) (h : (Lit.int .i64 a).wf = true) : Try.prog.keyLits (m + 1) 2 [.int .i64 a] = some [.int .i64 a] := by
  unfold Program.keyLits
  rw [underI]
  simp [h]
theorem lits_mk (m : Nat) {x : Thd} (h : Wf3 x) : Try.prog.keyLits (m + 2) 86 [.int .i64 x.1, .int .i64 x.2.1, .int .i64 x.2.2] = some [.int .i64 x.1, .int .i64 x.2.1, .int .i64 x.2.2] := by
  conv => lhs; unfold Program.keyLits
  rw [underK]
  simp only [cellsK, cellsI]
  simp [show List.range 3 = [0, 1, 2] from rfl, lit_mk m _ h.1, lit_mk m _ h.2.1, lit_mk m _ h.2.2]
theorem key_mk {x : Thd} (h : Wf3 x) : ∃ kl, keyOf Try.prog 86 (keyV x) = some kl := by
  simp [keyOf, keyT, Value.formed, cellsK, Value.cells]
  exact ⟨_, [.int .i64 x.1, .int .i64 x.2.1, .int .i64 x.2.2], lits_mk _ h, rfl⟩
theorem key_ne {x y : Thd} {kx ky : Lit} (hx : keyOf Try.prog 86 (keyV x) = some kx) (hy : keyOf Try.prog 86 (keyV y) = some ky) (hne : x ≠ y) : kx ≠ ky := by
  intro e
  subst e
  have := lawK.inj hx hy
  simp at this
  exact hne (Prod.ext this.1 (Prod.ext this.2.1 this.2.2))

/-- what stands under a name: its place, and the thing -/
abbrev Std := Int × TypeId × Value
def stV (s : Std) : Value := .agg #[.int .i64 s.1, .iface s.2.1 s.2.2]
/-- an element is read as it is -/
def heldE (v : Value) : Option (DataW Value × List MemPlace) := some (.held v, [])
/-- WHAT THE MAP HOLDS -/
def Live (w : World) (b n : Nat) (f : Thd → Option Std) : Prop := ∃ D, w.ownsMap Try.prog 86 heldE b n D ∧
  ∀ (x : Thd) (kl : Lit), Wf3 x → keyOf Try.prog 86 (keyV x) = some kl → has D kl = (f x).isSome ∧ ∀ s, f x = some s → ∀ z, D.atKey kl z = .held (stV s)
theorem Live.lt {w : World} {b n : Nat} {f : Thd → Option Std} (h : Live w b n f) : b < w.heap.size := by
  obtain ⟨D, h1, h2⟩ := h
  exact h1.lt
theorem Live.block {w w' : World} {b n : Nat} {f : Thd → Option Std} (h : Live w b n f) (hb : w'.heap[b]? = w.heap[b]?) : Live w' b n f := by
  obtain ⟨D, ⟨es, clock, h1, h3⟩, h2⟩ := h
  exact ⟨D, ⟨es, clock, hb.trans h1, h3⟩, h2⟩
theorem Live.later {w w' : World} {b n : Nat} {f : Thd → Option Std} (h : Live w b n f) (hb : Below w.heap.size w w') : Live w' b n f := h.block (hb.block b h.lt)
theorem Live.congr {w : World} {b n : Nat} {f g : Thd → Option Std} (h : Live w b n f) (he : ∀ x, f x = g x) : Live w b n g := by rw [← funext he]; exact h
theorem live_made (w : World) : Live (w.alloc (.map #[] 0)) w.heap.size 0 (fun _ => none) :=
  ⟨.map [], World.ownsMap_made w _ _ _, fun x kl _ _ => ⟨by simp [has], fun s hs => by cases hs⟩⟩
theorem Live.look {w : World} {b n : Nat} {f : Thd → Option Std} (h : Live w b n f) {x : Thd} (hx : Wf3 x) :
    (Instr.lookup 75 (.map (some b)) (keyV x) true).run Try.prog w = .ok (.tuple #[((f x).map stV).getD zeroS, .bool (f x).isSome]) w := by
  obtain ⟨D, h1, h2⟩ := h
  obtain ⟨kl, hk⟩ := key_mk hx
  obtain ⟨v, ps, hr, hv⟩ := h1.look_ok lawK underM (zeroE w) (zd := .held zeroS) (zp := []) rfl hk
  obtain ⟨t1, t2⟩ := h2 x kl hx hk
  simp only [heldE, Option.some.injEq, Prod.mk.injEq] at hv
  cases hf : f x with
  | none =>
    rw [hf] at t1
    rw [atKey_of_not_has t1] at hv
    have e : v = zeroS := by have := hv.1; injection this
    rw [hr, t1, e]; rfl
  | some s =>
    rw [t2 s hf] at hv
    rw [hf] at t1
    have e : v = stV s := by have := hv.1; injection this
    rw [hr, t1, e]; rfl
/-- the store -/
theorem Live.store {w : World} {b n : Nat} {f : Thd → Option Std} (h : Live w b n f) (hn : n < 1000) {x : Thd} (hx : Wf3 x) (s : Std) :
    ∃ w', (Instr.mapUpdate 75 (.map (some b)) (keyV x) (stV s)).run Try.prog w = .ok () w' ∧ Live w' b (n + 1) (fun y => if y = x then some s else f y) ∧ w.grownBy w' (some b) := by
  obtain ⟨D, h1, h2⟩ := h
  obtain ⟨kl, hk⟩ := key_mk hx
  obtain ⟨w', hr, ho', ht⟩ := h1.store lawK underM (by unfold maxLen; omega) (val := stV s) (d := .held (stV s)) (ps := []) hk rfl
  refine ⟨w', hr, ⟨_, ho', ?_⟩, ht.grown⟩
  intro y ky hy hky
  obtain ⟨t1, t2⟩ := h2 y ky hy hky
  by_cases e : y = x
  · subst e
    have ek : ky = kl := Option.some.inj (hky.symm.trans hk)
    subst ek
    simp only [if_true]
    refine ⟨has_put_same h1.isMap (lawK.key hk) _, fun s' hs z => ?_⟩
    have hs := Option.some.inj hs
    rw [← hs, atKey_put_same h1.isMap (lawK.key hk)]
  · have hne := key_ne hky hk e
    simp only [if_neg e]
    rw [has_put_other hne]
    exact ⟨t1, fun s' hs z => by rw [atKey_put_other hne]; exact t2 s' hs z⟩
end Go.Proofs.Ytohgafblffnekaa.deep
