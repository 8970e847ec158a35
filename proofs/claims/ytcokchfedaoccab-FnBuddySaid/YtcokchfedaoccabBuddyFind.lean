/-
  The walk of the specification's l04Find: where a block stands in a row, or -1.
-/
import Derived.Test.YtcokchfedaoccabBuddySpec
namespace Go.Proofs.Ytcokchfedaoccab.bspec
open Go.RowKit Go.Deep
open Go.Proofs.Ytcokchfedaoccab
open Go.Proofs.Ytcokchfedaoccab.brows

/-- what l04Find tells -/
def findI : List Pr → Pr → Nat → Int
  | [], _, _ => -1
  | y :: t, x, k => if y = x then (k : Int) else findI t x (k + 1)
def Found (xs : List Pr) (x : Pr) (r : Int) : Prop := (r = -1 ∧ x ∉ xs) ∨ ∃ i : Nat, i < xs.length ∧ r = (i : Int) ∧ xs[i]? = some x
theorem find_miss : ∀ (xs : List Pr) (x : Pr) (k : Nat), x ∉ xs → findI xs x k = -1
  | [], _, _, _ => rfl
  | y :: t, x, k, h => by
    have hne : y ≠ x := fun e => h (by rw [e]; exact List.mem_cons_self ..)
    rw [findI, if_neg hne, find_miss t x (k + 1) (fun hm => h (List.mem_cons_of_mem _ hm))]
theorem find_hit : ∀ (xs : List Pr) (x : Pr) (k i : Nat), (∀ j, j < i → xs[j]? ≠ some x) → xs[i]? = some x → findI xs x k = ((k + i : Nat) : Int)
  | [], _, _, i, _, h => by simp at h
  | y :: t, x, k, 0, _, h => by
    simp at h; subst h; simp [findI]
  | y :: t, x, k, i + 1, hn, h => by
    have hy : y ≠ x := fun e => hn 0 (by omega) (by simp [e])
    rw [findI, if_neg hy, find_hit t x (k + 1) i (fun j hj => by have := hn (j + 1) (by omega); simpa using this) (by simpa using h)]
    congr 1; omega
theorem find_told : ∀ (xs : List Pr) (x : Pr) (k : Nat), (findI xs x k = -1 ∧ x ∉ xs) ∨ ∃ i : Nat, i < xs.length ∧ findI xs x k = ((k + i : Nat) : Int) ∧ xs[i]? = some x
  | [], _, _ => Or.inl ⟨rfl, by simp⟩
  | y :: t, x, k => by
    by_cases e : y = x
    · exact Or.inr ⟨0, by simp, by simp [findI, e], by simp [e]⟩
    · rcases find_told t x (k + 1) with ⟨h1, h2⟩ | ⟨i, h1, h2, h3⟩
      · refine Or.inl ⟨by rw [findI, if_neg e, h1], fun hm => ?_⟩
        rcases List.mem_cons.1 hm with e' | hm
        · exact e e'.symm
        · exact h2 hm
      · exact Or.inr ⟨i + 1, by simpa using h1, by rw [findI, if_neg e, h2]; congr 1; omega, by simpa using h3⟩
theorem found (xs : List Pr) (x : Pr) : Found xs x (findI xs x 0) := by
  rcases find_told xs x 0 with h | ⟨i, h1, h2, h3⟩
  · exact Or.inl h
  · exact Or.inr ⟨i, h1, by rw [h2]; simp, h3⟩
def FindPost (xs : List Pr) (x : Pr) (w : World) (e : Ending) (w' : World) : Prop := e = .returned (.int .i64 (findI xs x 0)) ∧ Below w.heap.size w w'

theorem not_mem_of {xs : List Pr} {x : Pr} (h : ∀ j, j < xs.length → xs[j]? ≠ some x) : x ∉ xs := fun hm => by
  obtain ⟨j, hj⟩ := List.getElem?_of_mem hm
  have : j < xs.length := by
    rcases Nat.lt_or_ge j xs.length with h1 | h1
    · exact h1
    · rw [List.getElem?_eq_none h1] at hj; cases hj
  exact h j this hj

set_option maxHeartbeats 1000000 in
theorem spec_find_none (m : Int) (a : Option Addr) (c : Nat) (x : Pr) (w : World) :
    Calls Try.prog 57 #[.agg #[.int .i64 m, .slice a 0 c], .agg #[.int .i64 x.1, .int .i64 x.2]] w (FindPost [] x w) := by
  go_enter Try.func57, Try.ntmps57
  go_wp2
  go_loop [5] (fun i => i = .int .i64 0) (fun _ => 0)
  case atStart => exact rfl
  case round =>
    subst hrel
    go_wp2
    go_ret
    exact ⟨rfl, ((Below.refl _ _).alloc (Nat.le_refl _) _).alloc (by simp) _⟩

set_option maxHeartbeats 1000000 in
theorem spec_find (m : Int) (v : Value) (xs : List Pr) (x : Pr) (w : World) (h : Rd w v xs) (hn : xs.length ≤ 1000000) :
    Calls Try.prog 57 #[.agg #[.int .i64 m, v], .agg #[.int .i64 x.1, .int .i64 x.2]] w (FindPost xs x w) := by
  by_cases h0 : xs.length = 0
  · obtain ⟨a, c, rfl, _⟩ := h.form
    have e : xs = [] := List.eq_nil_of_length_eq_zero h0
    subst e
    exact spec_find_none m a c x w
  obtain ⟨g, c, rfl, _, _, hg, hc⟩ := h.at (by omega)
  have HC : Hid _ := hc
  clear hc h h0
  obtain ⟨p, q⟩ := x
  simp only
  go_enter Try.func57, Try.ntmps57
  go_wp2
  go_loopw [5] (fun i wr => ∃ k : Nat, k ≤ xs.length ∧ i = .int .i64 k ∧ Hid (∀ j, j < k → xs[j]? ≠ some (p, q)) ∧ Below ((w.alloc (.cells #[.int .i64 m, .slice (some ⟨g, 0, none⟩) xs.length c] 29)).alloc (.cells #[.int .i64 p, .int .i64 q] 68)).heap.size ((w.alloc (.cells #[.int .i64 m, .slice (some ⟨g, 0, none⟩) xs.length c] 29)).alloc (.cells #[.int .i64 p, .int .i64 q] 68)) wr) (fun i _ => xs.length - (intOf i).toNat)
  case atStart => exact ⟨0, by omega, rfl, fun j hj => by omega, Below.refl _ _⟩
  case round =>
    obtain ⟨k, hk, rfl, HJ, hbel⟩ := hrel
    have b1 : wr.cell? ⟨w.heap.size, 1, none⟩ = some (.slice (some ⟨g, 0, none⟩) xs.length c) := (hbel.cell (p := ⟨w.heap.size, 1, none⟩) (by simp; omega)).trans (by simp)
    have b2 : wr.cell? ⟨w.heap.size + 1, 0, none⟩ = some (.int .i64 p) := (hbel.cell (p := ⟨w.heap.size + 1, 0, none⟩) (by simp)).trans (by simp)
    have b3 : wr.cell? ⟨w.heap.size + 1, 1, none⟩ = some (.int .i64 q) := (hbel.cell (p := ⟨w.heap.size + 1, 1, none⟩) (by simp)).trans (by simp)
    have HB : Hid (Below w.heap.size w wr) := (((Below.refl w.heap.size w).alloc (Nat.le_refl _) _).alloc (by simp) _).trans (hbel.mono (by simp; omega))
    by_cases hlt : k < xs.length
    · have e0 := (HB.out.cell (p := ⟨g, k * 2, none⟩) hg).trans (HC.out k hlt).1
      have e1 := (HB.out.cell (p := ⟨g, k * 2 + 1, none⟩) hg).trans (HC.out k hlt).2
      have HX : Hid (xs[k]? = some (xs[k].1, xs[k].2)) := by rw [Hid, List.getElem?_eq_getElem hlt]
      generalize xs[k].1 = y0 at *
      generalize xs[k].2 = y1 at *
      have HJ2 : Hid (¬ (y0 = p ∧ y1 = q) → ∀ j, j < k + 1 → xs[j]? ≠ some (p, q)) := fun hne j hj => by
        by_cases ej : j = k
        · subst ej
          rw [HX.out]
          intro e
          injection e with e
          injection e with e2 e3
          exact hne ⟨e2, e3⟩
        · exact HJ.out j (by omega)
      by_cases h0 : y0 = p
      · by_cases h1 : y1 = q
        · subst h0 h1
          have HK : Hid (((k : Nat) : Int) = findI xs (y0, y1) 0) := by rw [Hid, find_hit xs (y0, y1) 0 k HJ.out HX.out]; simp
          clear HJ HJ2
          go_wp2
          go_region
          go_wp2
          go_ret
          exact ⟨ret_int HK.out, HB.out.drew⟩
        · have HJ3 : Hid _ := HJ2.out (fun h => h1 h.2)
          clear HJ HJ2
          go_wp2
          go_region
          go_wp2
          go_roundw
          case rel => exact ⟨k + 1, by omega, by go_num, HJ3.out, hbel.drew⟩
          case measure => simp [intOf]; omega
      · have HJ3 : Hid _ := HJ2.out (fun h => h0 h.1)
        clear HJ HJ2
        go_wp2
        go_region
        go_wp2
        go_roundw
        case rel => exact ⟨k + 1, by omega, by go_num, HJ3.out, hbel.drew⟩
        case measure => simp [intOf]; omega
    · go_wp2
      go_ret
      exact ⟨ret_int (find_miss xs (p, q) 0 (not_mem_of fun j hj => HJ.out j (by omega))).symm, HB.out⟩
end Go.Proofs.Ytcokchfedaoccab.bspec
