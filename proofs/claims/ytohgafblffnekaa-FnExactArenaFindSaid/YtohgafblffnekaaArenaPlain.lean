/-
  When an arena is right, in plain words.
-/
import Derived.Test.YtohgafblffnekaaArena
import Derived.Test.YtohgafblffnekaaLabel
import Derived.Test.YtohgafblffnekaaMix
namespace Go.Proofs.Ytohgafblffnekaa.deep
open Go.RowKit
open Go.Proofs.Ytohgafblffnekaa
set_option linter.unusedVariables false

/-- the zero thing -/
def ObjD.bare (o : ObjD) : Bool := decide (o.kind = 0) && decide (o.lab = 0) && decide (o.order = 0) && decide (o.place = 0) && decide (o.up = (0, 0, 0)) && (decide (o.room = 0) && decide (o.free.length = 0)) && decide (o.kids.length = 0) && decide (o.maps.length = 0) && decide (o.fasts.length = 0)
/-- a slot that is right by itself -/
def SlotD.right (s : SlotD) : Bool := if s.live then decide (0 ≤ s.gen ∧ s.gen < 3) && pm.keyB s.id else decide (0 ≤ s.gen ∧ s.gen ≤ 3) && decide (s.id = 0) && s.obj.bare
/-- one of these has that Id and is Live -/
def hasId (xs : List SlotD) (id : Int) : Bool := xs.any fun t => t.live && decide (t.id = id)
def goodAt (pre : List SlotD) (s : SlotD) : Bool := s.right && !(s.live && hasId pre s.id)
def goodI (xs : List SlotD) (i : Nat) : Bool := match xs[i]? with | some s => goodAt (xs.take i) s | none => true
def goodS (xs : List SlotD) : Bool := (List.range xs.length).all (goodI xs)
theorem goodI_at (xs : List SlotD) (i : Nat) (h : i < xs.length) : goodI xs i = goodAt (xs.take i) xs[i] := by simp [goodI, h]
theorem good_no {xs : List SlotD} {i : Nat} (h : i < xs.length) (hb : goodI xs i = false) : goodS xs = false := by
  cases e : goodS xs with
  | false => rfl
  | true =>
    simp only [goodS, List.all_eq_true, List.mem_range] at e
    rw [e i h] at hb
    cases hb
theorem good_yes {xs : List SlotD} (h : ∀ i, i < xs.length → goodI xs i = true) : goodS xs = true := by
  simp only [goodS, List.all_eq_true, List.mem_range]; exact h
def rightS (k c : Int) : Bool := pm.keyB k && decide (0 ≤ c ∧ c ≤ 1000)
def ArenaD.right (a : ArenaD) : Bool := label.rightB a.label && rightS a.key a.count && decide (a.slots.length ≤ 6) && goodS a.slots
theorem has_step (xs : List SlotD) (id : Int) (i : Nat) (h : i < xs.length) : hasId (xs.take (i + 1)) id = (hasId (xs.take i) id || (xs[i].live && decide (xs[i].id = id))) := by
  simp only [hasId]
  rw [List.take_add_one, List.getElem?_eq_getElem h, List.any_append]; simp
theorem has_more (xs : List SlotD) (id : Int) : ∀ d i, i + d ≤ xs.length → hasId (xs.take i) id = true → hasId (xs.take (i + d)) id = true
  | 0, i, _, h => h
  | d + 1, i, hl, h => by
    rw [← Nat.add_assoc, has_step xs id (i + d) (by omega), has_more xs id d i (by omega) h]; rfl

theorem good_gen {pre : List SlotD} {gn id : Int} {lv : Bool} {o : ObjD} (h : ¬ (0 ≤ gn ∧ gn ≤ 3)) : goodAt pre ⟨gn, lv, id, o⟩ = false := by
  have h1 : ¬ (0 ≤ gn ∧ gn < 3) := fun e => h ⟨e.1, by omega⟩
  cases lv <;> simp only [goodAt, SlotD.right, decide_eq_false h, decide_eq_false h1] <;> simp
theorem good_key {pre : List SlotD} {gn id : Int} {lv : Bool} {o : ObjD} (h : pm.keyB id = false) : goodAt pre ⟨gn, lv, id, o⟩ = false := by
  cases lv with
  | true => simp [goodAt, SlotD.right, h]
  | false =>
    have hne : ¬ id = 0 := fun e => by subst e; revert h; decide
    simp [goodAt, SlotD.right, hne]
theorem good_dead {pre : List SlotD} {gn id : Int} {o : ObjD} (h : o.bare = false) : goodAt pre ⟨gn, false, id, o⟩ = false := by simp [goodAt, SlotD.right, h]
theorem good_dead_id {pre : List SlotD} {gn id : Int} {o : ObjD} (h : ¬ id = 0) : goodAt pre ⟨gn, false, id, o⟩ = false := by simp [goodAt, SlotD.right, h]
theorem good_dead_yes {pre : List SlotD} {gn : Int} {o : ObjD} (h0 : 0 ≤ gn) (h1 : gn ≤ 3) (h : o.bare = true) : goodAt pre ⟨gn, false, 0, o⟩ = true := by simp [goodAt, SlotD.right, h, h0, h1]
theorem good_live_3 {pre : List SlotD} {id : Int} {o : ObjD} : goodAt pre ⟨3, true, id, o⟩ = false := by simp [goodAt, SlotD.right]
theorem good_live {pre : List SlotD} {gn id : Int} {o : ObjD} (h0 : 0 ≤ gn) (h1 : gn ≤ 3) (h3 : ¬ gn = 3) (hk : pm.keyB id = true) : goodAt pre ⟨gn, true, id, o⟩ = !(hasId pre id) := by
  have h2 : gn < 3 := by omega
  simp [goodAt, SlotD.right, hk, h0, h2]
theorem good_next {xs : List SlotD} {j : Nat} (h : ∀ i, i < j → goodI xs i = true) (hj : goodI xs j = true) : ∀ i, i < j + 1 → goodI xs i = true := fun i hi => by
  by_cases e : i < j
  · exact h i e
  · have : i = j := by omega
    rw [this]; exact hj

theorem sp_stream (k c : Int) (w : World) : Calls Try.prog 59 #[.agg #[.int .i64 k, .int .i64 c]] w fun e w' => e = .returned (.bool (rightS k c)) ∧ Below w.heap.size w w' := by
  have HK : Hid (∀ W, _) := fun W => mix.spec_key k W
  have HI : Hid (∀ W, _) := fun W => mix.spec_is c 0 1000 W
  cases hk : pm.keyB k with
  | false =>
    have hf : rightS k c = false := by simp [rightS, hk]
    rw [hf]
    go_enter Try.func59, Try.ntmps59
    go_wp2_with (first | (go_at_call 57; refine (HK.out _).mono ?_; rintro e w' ⟨rfl, rfl⟩))
    go_ret
    exact ⟨rfl, below_one w _⟩
  | true =>
    have HF : Hid (rightS k c = decide (0 ≤ c ∧ c ≤ 1000)) := by simp [Hid, rightS, hk]
    generalize hb : decide (0 ≤ c ∧ c ≤ 1000) = b at *
    clear hb
    go_enter Try.func59, Try.ntmps59
    go_wp2_with (first | (go_at_call 57; refine (HK.out _).mono ?_; rintro e w' ⟨rfl, rfl⟩) | (go_at_call 39; refine (HI.out _).mono ?_; rintro e w' ⟨rfl, rfl⟩))
    go_ret
    exact ⟨by rw [HF.out]; rfl, below_one w _⟩
theorem im_stream (k c : Int) (w : World) : Calls Try.prog 65 #[.agg #[.int .i64 k, .int .i64 c]] w fun e w' => e = .returned (.bool (rightS k c)) ∧ Below w.heap.size w w' := by
  have HK : Hid (∀ W, _) := fun W => mix.impl_key k W
  cases hk : pm.keyB k with
  | false =>
    have hf : rightS k c = false := by simp [rightS, hk]
    rw [hf]
    go_enter Try.func65, Try.ntmps65
    go_wp2_with (first | (go_at_call 55; refine (HK.out _).mono ?_; rintro e w' ⟨rfl, rfl⟩))
    go_ret
    exact ⟨rfl, below_one w _⟩
  | true =>
    by_cases h0 : 0 ≤ c
    · by_cases h1 : c ≤ 1000
      · have hf : rightS k c = true := by simp [rightS, hk, h0, h1]
        rw [hf]
        go_enter Try.func65, Try.ntmps65
        go_wp2_with (first | (go_at_call 55; refine (HK.out _).mono ?_; rintro e w' ⟨rfl, rfl⟩))
        go_ret
        exact ⟨by first | (simp; done) | (simp; omega), below_one w _⟩
      · have hf : rightS k c = false := by simp [rightS, h1]
        rw [hf]
        go_enter Try.func65, Try.ntmps65
        go_wp2_with (first | (go_at_call 55; refine (HK.out _).mono ?_; rintro e w' ⟨rfl, rfl⟩))
        go_ret
        exact ⟨by first | (simp; done) | (simp; omega), below_one w _⟩
    · have hf : rightS k c = false := by simp [rightS, h0]
      rw [hf]
      go_enter Try.func65, Try.ntmps65
      go_wp2_with (first | (go_at_call 55; refine (HK.out _).mono ?_; rintro e w' ⟨rfl, rfl⟩))
      go_ret
      exact ⟨by first | (simp; done) | (simp; omega), below_one w _⟩
end Go.Proofs.Ytohgafblffnekaa.deep
