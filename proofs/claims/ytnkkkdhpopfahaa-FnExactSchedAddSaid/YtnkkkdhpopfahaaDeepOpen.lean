/-
  What was handed in, opened: slices of structs, and slices within them.
-/
import Derived.Test.YtnkkkdhpopfahaaDeep
import Derived.OpenShut
import Derived.DataReads
import Derived.ChangeReads
import Derived.ChangeOld
import Derived.ChangeArms
namespace Go.Proofs.Ytnkkkdhpopfahaa.deep
open Go.RowKit Go.Deep
set_option linter.unusedVariables false

theorem range_some {α : Type} {f : Nat → Option α} {n : Nat} {l : List α} (h : (List.range n).mapM f = some l) : l.length = n ∧ ∀ i (hi : i < l.length), f i = some l[i] := by
  have key : ∀ (is : List Nat) (l : List α), is.mapM f = some l → l.length = is.length ∧ ∀ i (hi : i < l.length) (hj : i < is.length), f is[i] = some l[i] := by
    intro is
    induction is with
    | nil => intro l h; simp at h; subst h; exact ⟨rfl, fun i hi => by simp at hi⟩
    | cons x xs ih =>
      intro l h
      rw [List.mapM_cons] at h
      cases hx : f x with
      | none => simp [hx] at h
      | some y =>
        cases hs : xs.mapM f with
        | none => simp [hx, hs] at h
        | some ys =>
          simp [hx, hs] at h
          subst h
          obtain ⟨h1, h2⟩ := ih ys hs
          refine ⟨by simp [h1], fun i hi hj => ?_⟩
          cases i with
          | zero => simpa using hx
          | succ i => simpa using h2 i (by simpa using hi) (by simpa using hj)
  obtain ⟨h1, h2⟩ := key _ _ h
  refine ⟨by simpa using h1, fun i hi => ?_⟩
  have := h2 i hi (by omega)
  simpa using this
theorem choose_list {α : Type} {n : Nat} {R : Nat → α → Prop} (h : ∀ i, i < n → ∃ x, R i x) : ∃ xs : List α, xs.length = n ∧ ∀ i (hi : i < xs.length), R i xs[i] := by
  induction n with
  | zero => exact ⟨[], rfl, fun i hi => by simp at hi⟩
  | succ n ih =>
    obtain ⟨xs, h1, h2⟩ := ih (fun i hi => h i (by omega))
    obtain ⟨x, hx⟩ := h n (by omega)
    refine ⟨xs ++ [x], by simp [h1], fun i hi => ?_⟩
    by_cases e : i < xs.length
    · rw [List.getElem_append_left e]; exact h2 i e
    · have e2 : i = xs.length := by simp at hi; omega
      subst e2
      rw [List.getElem_append_right (Nat.le_refl _)]
      simpa [h1] using hx
theorem cells_some {w : World} {a : Addr} {n : Nat} {cs : List Value} (h : w.cells? 0 a n = some cs) : cs.length = n ∧ ∀ i, i < n → w.cell? (a.add i) = cs[i]? := by
  unfold World.cells? at h
  rw [if_pos (Nat.zero_le _)] at h
  obtain ⟨h1, h2⟩ := range_some h
  exact ⟨h1, fun i hi => by rw [h2 i (by omega), List.getElem?_eq_getElem (by omega)]⟩
theorem spot_none {w : World} {b off k : Nat} {v : Value} : w.cell? ⟨b, off, some k⟩ ≠ some v := by
  unfold World.cell?
  split <;> simp

theorem lt_of_cell {w : World} {b off : Nat} {v : Value} (h : w.cell? ⟨b, off, none⟩ = some v) : b < w.heap.size := by
  unfold World.cell? at h
  cases e : w.heap[b]? with
  | none => simp [e] at h
  | some o => exact (Array.getElem?_eq_some_iff.1 e).1

/-- a slice that was handed in -/
theorem open_row {H α : Type} {enc : TypeId × Value → H} {P : Program} {W : World} {E : Reader α} {t e : TypeId} {k n : Nat} {v : Value} {y : DataW H × List MemPlace} (ht : P.underlying t = some (.slice e)) (hc : P.cellsOf e = k) (hk : 0 < k)
    (hE : ∀ (m : Nat) (cs : List Value) (z : DataW H × List MemPlace), cs.length = k → DataW.trod enc P W 0 (fun _ => true) true m e cs = some z → ∃ x, E 0 W cs x)
    (h : DataW.trod enc P W 0 (fun _ => true) true n t [v] = some y) : ∃ xs, RowE E k 0 W v xs := by
  cases n with
  | zero => simp [DataW.trod] at h
  | succ m =>
    rw [DataW.trod_step] at h
    unfold DataW.trodStep at h
    rw [ht] at h
    cases v with
    | slice a len cap =>
      cases a with
      | none =>
        cases len with
        | zero =>
          cases cap with
          | zero => exact ⟨[], none, 0, rfl, by simp, fun h => absurd h (by simp)⟩
          | succ c => simp at h
        | succ l => simp at h
      | some a =>
        simp only at h
        split at h
        · rename_i hcond
          obtain ⟨elems, he, h2⟩ := Option.bind_eq_some_iff.1 h
          obtain ⟨hl, hel⟩ := range_some he
          have each : ∀ i, i < len → ∃ x, ∃ cs : List Value, cs.length = k ∧ (∀ j, j < k → W.cell? ((a.add (i * k)).add j) = cs[j]?) ∧ E 0 W cs x := fun i hi => by
            have h3 := hel i (by omega)
            obtain ⟨cs, hcs, hz⟩ := Option.bind_eq_some_iff.1 h3
            rw [hc] at hcs
            obtain ⟨h4, h5⟩ := cells_some hcs
            obtain ⟨x, hx⟩ := hE m cs _ h4 hz
            exact ⟨x, cs, h4, h5, hx⟩
          obtain ⟨xs, hxl, hxs⟩ := choose_list each
          refine ⟨xs, some a, cap, by rw [hxl], by omega, fun h0 => ?_⟩
          obtain ⟨b, off, spot⟩ := a
          have hsp : spot = none := by
            cases spot with
            | none => rfl
            | some q =>
              exfalso
              obtain ⟨cs, h4, h5, _⟩ := hxs 0 h0
              have h6 := h5 0 hk
              rw [List.getElem?_eq_getElem (by omega)] at h6
              simp only [Nat.zero_mul] at h6
              exact spot_none h6
          subst hsp
          have ea : ∀ (o i : Nat), Addr.add ⟨b, o, none⟩ i = ⟨b, o + i, none⟩ := fun o i => by
            unfold Addr.add; split
            · next h => subst h; rfl
            · rfl
          have hcell : ∀ i (hi : i < xs.length), ∃ cs : List Value, cs.length = k ∧ (∀ j, j < k → W.cell? ⟨b, off + i * k + j, none⟩ = cs[j]?) ∧ E 0 W cs xs[i] := fun i hi => by
            obtain ⟨cs, h4, h5, h6⟩ := hxs i hi
            exact ⟨cs, h4, fun j hj => by rw [← h5 j hj, ea, ea], h6⟩
          refine ⟨b, off, rfl, Nat.zero_le _, ?_, hcell⟩
          obtain ⟨cs, h4, h5, _⟩ := hcell 0 h0
          have h6 := h5 0 hk
          rw [List.getElem?_eq_getElem (by omega)] at h6
          exact lt_of_cell h6
        · simp at h
    | _ => simp at h

/-- a struct that was handed in, field by field -/
theorem open_struct {H : Type} {enc : TypeId × Value → H} {P : Program} {W : World} {t : TypeId} {fs : Array Field} {n : Nat} {cs : List Value} {y : DataW H × List MemPlace} (ht : P.underlying t = some (.struct fs))
    (h : DataW.trod enc P W 0 (fun _ => true) true n t cs = some y) : cs.length = P.cellsOf t ∧ ∃ m, ∀ (i : Nat) (f : Field), fs[i]? = some f → ∃ z, DataW.trod enc P W 0 (fun _ => true) true m f.type ((cs.drop f.offset).take (P.cellsOf f.type)) = some z := by
  obtain ⟨xs, m, _, _, hl, hlen, hf⟩ := DataW.trod_struct ht h
  refine ⟨hl, m, fun i f hi => ?_⟩
  have h1 : i < fs.size := (Array.getElem?_eq_some_iff.1 hi).1
  exact ⟨xs[i]'(by omega), by rw [hf i f hi, List.getElem?_eq_getElem (by omega)]⟩
end Go.Proofs.Ytnkkkdhpopfahaa.deep
