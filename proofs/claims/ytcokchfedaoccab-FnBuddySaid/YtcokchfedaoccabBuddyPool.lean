/-
  The program's map of free blocks: what it holds, told by a row of blocks.
-/
import Derived.Test.YtcokchfedaoccabBuddyRight
import Derived.Maps.OwnSet
import Derived.Maps.RangeWalk
import Derived.Maps.Ext
import Derived.DeepKeys4
import Derived.Below
namespace Go.Proofs.Ytcokchfedaoccab.bpool
open Go.RowKit Go.Deep Go.Maps
open Go.Proofs.Ytcokchfedaoccab
open Go.Proofs.Ytcokchfedaoccab.brows
open Go.Proofs.Ytcokchfedaoccab.bspec
open Go.Proofs.Ytcokchfedaoccab.bd (Blk)
set_option linter.unusedVariables false

theorem laidOut : laidOutB Try.prog = true := by kernel_rfl
theorem rowK : (68 : TypeId) < Try.prog.types.size := of_decide_eq_true (by kernel_rfl)
theorem wideK : (match Try.prog.underlying 68 with | some (.array _ _) | some (.struct _) => true | _ => false) = true := by kernel_rfl
theorem law : Keyed Try.prog 68 := Keyed.of_law (deep_law_laid laidOut (m := 3) (by omega) rowK (by kernel_rfl) wideK)
theorem underM : Try.prog.underlying 58 = some (.map 68 2) := by kernel_rfl
theorem underE : Try.prog.underlying 2 = some (.int .i64) := by kernel_rfl
theorem zeroE (w : World) : (zeroValue 2).run Try.prog w = .ok (.int .i64 0) w := by kernel_rfl

/-- a block's value -/
abbrev keyV (x : Pr) : Value := .agg #[.int .i64 x.1, .int .i64 x.2]
def Wf (x : Pr) : Prop := (Lit.int .i64 x.1).wf = true ∧ (Lit.int .i64 x.2).wf = true
theorem wf_emb {y : Blk} (h1 : y.1 < 1000) (h2 : y.2 < 1000) : Wf (emb y) := ⟨WalkArith.wf_i64 (by simp only [emb]; omega), WalkArith.wf_i64 (by simp only [emb]; omega)⟩

theorem keyT : Try.prog.keyType 68 = true := by kernel_rfl
theorem cellsK : Try.prog.cellsOf 68 = 2 := by kernel_rfl
theorem cellsE : Try.prog.cellsOf 2 = 1 := by kernel_rfl
theorem typesN : Try.prog.types.size + 1 = 114 + 1 := by kernel_rfl

theorem lits_two (m : Nat) (c0 c1 : Value) : Try.prog.keyLits (m + 1) 68 [c0, c1] = ((Try.prog.keyLits m 2 [c0]).bind fun a => (Try.prog.keyLits m 2 [c1]).map fun b => a ++ b) := by
  conv => lhs; unfold Program.keyLits
  rw [Try.underlying68]
  simp [cellsK, cellsE]
  cases Try.prog.keyLits m 2 [c0] <;> cases Try.prog.keyLits m 2 [c1] <;> simp
theorem lit_one (m : Nat) (c : Value) (l : List Lit) (h : Try.prog.keyLits m 2 [c] = some l) : ∃ a, c = .int .i64 a ∧ (Lit.int .i64 a).wf = true := by
  cases m with
  | zero => simp [Program.keyLits] at h
  | succ m =>
    unfold Program.keyLits at h
    rw [underE] at h
    cases c <;> simp at h
    obtain ⟨⟨rfl, h1⟩, _⟩ := h
    exact ⟨_, rfl, h1⟩
theorem lit_mk (m : Nat) (a : Int) (h : (Lit.int .i64 a).wf = true) : Try.prog.keyLits (m + 1) 2 [.int .i64 a] = some [.int .i64 a] := by
  unfold Program.keyLits
  rw [underE]
  simp [h]
theorem key_form {v : Value} {kl : Lit} (h : keyOf Try.prog 68 v = some kl) : ∃ x : Pr, v = keyV x ∧ Wf x := by
  simp [keyOf, Try.underlying68, keyT] at h
  obtain ⟨hf, l, hl, _⟩ := h
  cases v <;> simp [Value.formed, Try.underlying68, cellsK] at hf
  rename_i cs
  obtain ⟨l0⟩ := cs
  simp only [List.size_toArray] at hf
  match l0, hf with
  | [c0, c1], _ =>
    simp only [Value.cells] at hl
    rw [lits_two] at hl
    obtain ⟨a, ha, hb⟩ := Option.bind_eq_some_iff.1 hl
    obtain ⟨b, hb, _⟩ := Option.map_eq_some_iff.1 hb
    obtain ⟨x0, rfl, h0⟩ := lit_one _ _ _ ha
    obtain ⟨x1, rfl, h1⟩ := lit_one _ _ _ hb
    exact ⟨(x0, x1), rfl, h0, h1⟩
theorem lits_mk (m : Nat) {x : Pr} (h : Wf x) : Try.prog.keyLits (m + 2) 68 [.int .i64 x.1, .int .i64 x.2] = some [.int .i64 x.1, .int .i64 x.2] := by
  rw [lits_two, lit_mk _ _ h.1, lit_mk _ _ h.2]; rfl
theorem key_mk {x : Pr} (h : Wf x) : ∃ kl, keyOf Try.prog 68 (keyV x) = some kl := by
  simp [keyOf, Try.underlying68, keyT, Value.formed, cellsK, Value.cells]
  exact ⟨_, [.int .i64 x.1, .int .i64 x.2], lits_mk _ h, rfl⟩

noncomputable def i64d (a : Int) : DataW Unit := .lit (.int .i64 a)
/-- WHAT THE MAP HOLDS: just the blocks of l, each with how many pages it has. -/
def Tells (D : DataW Unit) (l : List Blk) : Prop := ∀ (x : Pr) (kl : Lit), Wf x → keyOf Try.prog 68 (keyV x) = some kl →
  (has D kl = true ↔ ∃ y ∈ l, emb y = x) ∧ ∀ y ∈ l, emb y = x → ∀ z, D.atKey kl z = i64d ((2 ^ y.2 : Nat) : Int)
def Pool (w : World) (b n : Nat) (l : List Blk) : Prop := ∃ D, w.ownsMap Try.prog 68 (plainElem (H := Unit) Try.prog 2) b n D ∧ Tells D l

theorem Tells.congr {D : DataW Unit} {l l' : List Blk} (h : Tells D l) (he : ∀ x, x ∈ l ↔ x ∈ l') : Tells D l' := by
  intro x kl hx hk
  obtain ⟨h1, h2⟩ := h x kl hx hk
  exact ⟨h1.trans ⟨fun ⟨y, hy, e⟩ => ⟨y, (he y).1 hy, e⟩, fun ⟨y, hy, e⟩ => ⟨y, (he y).2 hy, e⟩⟩, fun y hy e z => h2 y ((he y).2 hy) e z⟩
theorem Pool.congr {w : World} {b n : Nat} {l l' : List Blk} (h : Pool w b n l) (he : ∀ x, x ∈ l ↔ x ∈ l') : Pool w b n l' := by
  obtain ⟨D, h1, h2⟩ := h
  exact ⟨D, h1, h2.congr he⟩
theorem Pool.lt {w : World} {b n : Nat} {l : List Blk} (h : Pool w b n l) : b < w.heap.size := by
  obtain ⟨D, h1, h2⟩ := h
  exact h1.lt
theorem Pool.kept {w w' : World} {row : Option Nat} {b n : Nat} {l : List Blk} (h : Pool w b n l) (hg : w.grownBy w' row) (hne : some b ≠ row) : Pool w' b n l := by
  obtain ⟨D, h1, h2⟩ := h
  exact ⟨D, h1.kept hg hne, h2⟩
theorem Pool.block {w w' : World} {b n : Nat} {l : List Blk} (h : Pool w b n l) (hb : w'.heap[b]? = w.heap[b]?) : Pool w' b n l := by
  obtain ⟨D, ⟨es, clock, h1, h3⟩, h2⟩ := h
  exact ⟨D, ⟨es, clock, hb.trans h1, h3⟩, h2⟩
theorem Pool.below {w w' : World} {B b n : Nat} {l : List Blk} (h : Pool w b n l) (hb : Below B w w') (hB : b < B) : Pool w' b n l := h.block (hb.block b hB)
theorem pool_made (w : World) : Pool (w.alloc (.map #[] 0)) w.heap.size 0 [] :=
  ⟨.map [], World.ownsMap_made w _ _ _, fun x kl _ _ => ⟨⟨fun h => by simp [has] at h, fun ⟨y, hy, _⟩ => by simp at hy⟩, fun y hy => by simp at hy⟩⟩

theorem key_ne {x y : Pr} {kx ky : Lit} (hx : keyOf Try.prog 68 (keyV x) = some kx) (hy : keyOf Try.prog 68 (keyV y) = some ky) (hne : x ≠ y) : kx ≠ ky := by
  intro e
  subst e
  have := law.inj hx hy
  simp at this
  exact hne (Prod.ext this.1 this.2)

/-- the look-up -/
theorem Pool.look {w : World} {b n : Nat} {l : List Blk} (h : Pool w b n l) {y : Blk} (hy : Wf (emb y)) :
    (Instr.lookup 58 (.map (some b)) (keyV (emb y)) false).run Try.prog w = .ok (.int .i64 (if y ∈ l then ((2 ^ y.2 : Nat) : Int) else 0)) w := by
  obtain ⟨D, h1, h2⟩ := h
  obtain ⟨kl, hk⟩ := key_mk hy
  obtain ⟨c, hr, hc, _⟩ := h1.lookup_int law underM underE (zeroE w) hk
  obtain ⟨t1, t2⟩ := h2 _ kl hy hk
  by_cases hm : y ∈ l
  · have := t2 y hm rfl (.lit (.int .i64 0))
    rw [hc] at this
    simp only [i64d, DataW.lit.injEq, Lit.int.injEq, true_and] at this
    rw [hr, if_pos hm, this]
  · have hn : has D kl = false := by
      cases hh : has D kl
      · rfl
      · obtain ⟨z, hz, e⟩ := t1.1 hh
        exact absurd (emb_inj e ▸ hz) hm
    rw [atKey_of_not_has hn] at hc
    simp only [DataW.lit.injEq, Lit.int.injEq, true_and] at hc
    rw [hr, if_neg hm, hc]
theorem Pool.look_ok {w : World} {b n : Nat} {l : List Blk} (h : Pool w b n l) {y : Blk} (hy : Wf (emb y)) :
    (Instr.lookup 58 (.map (some b)) (keyV (emb y)) true).run Try.prog w = .ok (.tuple #[.int .i64 (if y ∈ l then ((2 ^ y.2 : Nat) : Int) else 0), .bool (decide (y ∈ l))]) w := by
  obtain ⟨D, h1, h2⟩ := h
  obtain ⟨kl, hk⟩ := key_mk hy
  obtain ⟨v, ps, hr, hv⟩ := h1.look_ok law underM (zeroE w) (plainElem_int underE (by decide)) hk
  obtain ⟨c, rfl, hc, _⟩ := plainElem_int_inv underE hv
  obtain ⟨t1, t2⟩ := h2 _ kl hy hk
  have hc' := congrArg Prod.fst hc
  simp only at hc'
  by_cases hm : y ∈ l
  · have := t2 y hm rfl (.lit (.int .i64 0))
    rw [hc'] at this
    simp only [i64d, DataW.lit.injEq, Lit.int.injEq, true_and] at this
    rw [hr, if_pos hm, this, t1.2 ⟨y, hm, rfl⟩, decide_eq_true hm]
  · have hn : has D kl = false := by
      cases hh : has D kl
      · rfl
      · obtain ⟨z, hz, e⟩ := t1.1 hh
        exact absurd (emb_inj e ▸ hz) hm
    rw [atKey_of_not_has hn] at hc'
    simp only [DataW.lit.injEq, Lit.int.injEq, true_and] at hc'
    rw [hr, if_neg hm, hc', hn, decide_eq_false hm]

/-- the store -/
theorem Pool.store {w : World} {b n : Nat} {l : List Blk} (h : Pool w b n l) (hn : n < 1000) {y : Blk} (hy : Wf (emb y)) (ho : y.2 ≤ 5) :
    ∃ w', (Instr.mapUpdate 58 (.map (some b)) (keyV (emb y)) (.int .i64 ((2 ^ y.2 : Nat) : Int))).run Try.prog w = .ok () w' ∧ Pool w' b (n + 1) (y :: l) ∧ w.grownBy w' (some b) := by
  obtain ⟨D, h1, h2⟩ := h
  obtain ⟨kl, hk⟩ := key_mk hy
  have hp := bd.pow_le32 ho
  obtain ⟨w', hr, ho', ht⟩ := h1.store law underM (by unfold maxLen; omega) (val := .int .i64 ((2 ^ y.2 : Nat) : Int)) hk (plainElem_int underE (WalkArith.wf_i64 (by generalize 2 ^ y.2 = s at *; omega)))
  refine ⟨w', hr, ⟨_, ho', ?_⟩, ht.grown⟩
  intro x kx hx hkx
  obtain ⟨t1, t2⟩ := h2 x kx hx hkx
  by_cases e : x = emb y
  · subst e
    have ek : kx = kl := Option.some.inj (hkx.symm.trans hk)
    subst ek
    refine ⟨⟨fun _ => ⟨y, by simp, rfl⟩, fun _ => has_put_same h1.isMap (law.key hk) _⟩, fun z hz ez zd => ?_⟩
    rw [atKey_put_same h1.isMap (law.key hk), emb_inj ez]; rfl
  · have hne := key_ne hkx hk e
    rw [has_put_other hne]
    refine ⟨t1.trans ⟨fun ⟨z, hz, ez⟩ => ⟨z, by simp [hz], ez⟩, fun ⟨z, hz, ez⟩ => ?_⟩, fun z hz ez zd => ?_⟩
    · rcases List.mem_cons.1 hz with rfl | hz
      · exact absurd ez.symm e
      · exact ⟨z, hz, ez⟩
    · rw [atKey_put_other hne]
      rcases List.mem_cons.1 hz with rfl | hz
      · exact absurd ez.symm e
      · exact t2 z hz ez zd

/-- delete -/
theorem Pool.drop {w : World} {b n : Nat} {l : List Blk} (h : Pool w b n l) {y : Blk} (hy : Wf (emb y)) (ty : TypeId) :
    ∃ w', (Builtin.delete_ #[58, 68] ty #[.map (some b), keyV (emb y)]).run Try.prog w = .ok (.tuple #[]) w' ∧ Pool w' b n (l.filter (· ≠ y)) ∧ w.grownBy w' (some b) := by
  obtain ⟨D, h1, h2⟩ := h
  obtain ⟨kl, hk⟩ := key_mk hy
  obtain ⟨w', hr, ho', ht⟩ := h1.drop law underM hk ty
  refine ⟨w', hr, ⟨_, ho', ?_⟩, ht.grown⟩
  intro x kx hx hkx
  obtain ⟨t1, t2⟩ := h2 x kx hx hkx
  by_cases e : x = emb y
  · subst e
    have ek : kx = kl := Option.some.inj (hkx.symm.trans hk)
    subst ek
    rw [has_del_same]
    refine ⟨⟨fun hf => by simp at hf, fun ⟨z, hz, ez⟩ => ?_⟩, fun z hz ez zd => ?_⟩
    · have := (List.mem_filter.1 hz).2
      rw [emb_inj ez] at this
      simp at this
    · have := (List.mem_filter.1 hz).2
      rw [emb_inj ez] at this
      simp at this
  · have hne := key_ne hkx hk e
    rw [has_del_other hne]
    refine ⟨t1.trans ⟨fun ⟨z, hz, ez⟩ => ⟨z, ?_, ez⟩, fun ⟨z, hz, ez⟩ => ⟨z, (List.mem_filter.1 hz).1, ez⟩⟩, fun z hz ez zd => ?_⟩
    · refine List.mem_filter.2 ⟨hz, ?_⟩
      simp only [ne_eq, decide_not, Bool.not_eq_true', decide_eq_false_iff_not]
      intro hzy; subst hzy; exact e ez.symm
    · rw [atKey_del_other hne]
      exact t2 z (List.mem_filter.1 hz).1 ez zd
end Go.Proofs.Ytcokchfedaoccab.bpool
