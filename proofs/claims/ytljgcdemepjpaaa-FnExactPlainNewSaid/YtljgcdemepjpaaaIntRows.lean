/-
  Rows of numbers of 64 bits that a call owns: two that hold the same are told to be the same; one is marked; the marks are held.
-/
import Derived.Test.YtljgcdemepjpaaaRows
import Derived.WalkKit
import Derived.ProofKit
import Derived.WalkLawsBesides
import Derived.RegionTactic
import Derived.ChangeAlike
import Derived.Deep.OwnRows
namespace Go.Proofs.Ytljgcdemepjpaaa.irows
open Go.RowKit Go.Deep

/-- a row of numbers that is owned -/
def Row (w : World) (base : Nat) (v : Value) (xs : List Int) : Prop := w.ownsRow base 2 1 v xs.length (xs.map (Value.int .i64))

theorem Row.form {w : World} {base : Nat} {v : Value} {xs : List Int} (h : Row w base v xs) : ∃ a c, v = .slice a xs.length c := by
  rcases h.2 with ⟨rfl, h0⟩ | ⟨g, cap, cur, rfl, _⟩
  · exact ⟨none, 0, by rw [h0]⟩
  · exact ⟨_, _, rfl⟩
theorem Row.at {w : World} {base : Nat} {v : Value} {xs : List Int} (h : Row w base v xs) (hn : 0 < xs.length) :
    ∃ g c, v = .slice (some ⟨g, 0, none⟩) xs.length c ∧ base ≤ g ∧ g < w.heap.size ∧ (∀ i (hi : i < xs.length), w.cell? ⟨g, i, none⟩ = some (.int .i64 xs[i])) ∧ ∀ i, w.frozen? ⟨g, i, none⟩ = false := by
  have h' := h
  rcases h.2 with ⟨rfl, h0⟩ | ⟨g, cap, cur, rfl, hb, hc, _⟩
  · omega
  · have hg : g < w.heap.size := (Array.getElem?_eq_some_iff.1 hc).1
    refine ⟨g, cap, rfl, hb, hg, fun i hi => ?_, fun i => by simp [World.frozen?, hc]⟩
    have := World.ownsRow.cellAt h' i (by omega)
    rw [this, List.getElem?_map, List.getElem?_eq_getElem hi]
    rfl

theorem Row.later {w w' : World} {base : Nat} {v : Value} {xs : List Int} (h : Row w base v xs) (hb : Below w.heap.size w w') : Row w' base v xs := by
  obtain ⟨hl, hr⟩ := h
  refine ⟨hl, ?_⟩
  rcases hr with h0 | ⟨g, cap, cur, hv, hbg, hc, hrest⟩
  · exact Or.inl h0
  · exact Or.inr ⟨g, cap, cur, hv, hbg, (hb.block g (Array.getElem?_eq_some_iff.1 hc).1).trans hc, hrest⟩
theorem Row.cells {w : World} {base g n c : Nat} {xs : List Int} (h : Row w base (.slice (some ⟨g, 0, none⟩) n c) xs) :
    (∀ i (hi : i < xs.length), w.cell? ⟨g, i, none⟩ = some (.int .i64 xs[i])) ∧ ∀ i, w.frozen? ⟨g, i, none⟩ = false := by
  have h' := h
  rcases h.2 with ⟨hv, _⟩ | ⟨g', cap, cur, hv, hb, hc, _⟩
  · cases hv
  · cases hv
    refine ⟨fun i hi => ?_, fun i => by simp [World.frozen?, hc]⟩
    have := World.ownsRow.cellAt h' i (by omega)
    rw [this, List.getElem?_map, List.getElem?_eq_getElem hi]
    rfl

set_option maxHeartbeats 1000000 in
theorem eq_none (a b : Option Addr) (c d : Nat) (w : World) :
    Calls Try.prog 28 #[.slice a 0 c, .slice b 0 d] w fun e w' => e = .returned (.bool true) ∧ Below w.heap.size w w' := by
  go_enter Try.func28, Try.ntmps28
  go_wp2
  go_loop [5] (fun i => i = .int .i64 0) (fun _ => 0)
  case atStart => exact rfl
  case round =>
    subst hrel
    go_wp2
    go_ret
    exact ⟨rfl, Below.refl _ _⟩

set_option maxHeartbeats 1000000 in
theorem eq_rows {w : World} {b1 b2 : Nat} {va vb : Value} {xs : List Int} (h1 : Row w b1 va xs) (h2 : Row w b2 vb xs) (hn : xs.length ≤ 1000000000) :
    Calls Try.prog 28 #[va, vb] w fun e w' => e = .returned (.bool true) ∧ Below w.heap.size w w' := by
  by_cases h0 : xs.length = 0
  · obtain ⟨a, c, ha⟩ := h1.form
    obtain ⟨b, d, hb⟩ := h2.form
    rw [h0] at ha hb
    rw [ha, hb]
    exact eq_none a b c d w
  obtain ⟨g1, c1, rfl, _, hg1, hc1, _⟩ := h1.at (by omega)
  obtain ⟨g2, c2, rfl, _, hg2, hc2, _⟩ := h2.at (by omega)
  obtain ⟨n, hx⟩ : ∃ n, n = xs.length := ⟨_, rfl⟩
  have HC1 : Hid _ := hc1
  have HC2 : Hid _ := hc2
  clear hc1 hc2 h1 h2 h0
  go_enter Try.func28, Try.ntmps28
  go_wp2
  go_loopw [5] (fun i wr => ∃ k : Nat, k ≤ xs.length ∧ i = .int .i64 k ∧ Below w.heap.size w wr) (fun i _ => xs.length - (intOf i).toNat)
  case atStart => exact ⟨0, by omega, rfl, Below.refl _ _⟩
  case round =>
    obtain ⟨k, hk, rfl, hbel⟩ := hrel
    by_cases hlt : k < xs.length
    · have e1 : wr.cell? ⟨g1, k, none⟩ = some (.int .i64 xs[k]) := (hbel.cell (p := ⟨g1, k, none⟩) hg1).trans (HC1.out k hlt)
      have e2 : wr.cell? ⟨g2, k, none⟩ = some (.int .i64 xs[k]) := (hbel.cell (p := ⟨g2, k, none⟩) hg2).trans (HC2.out k hlt)
      generalize xs[k] = x at e1 e2
      go_wp2
      go_region
      go_wp2
      go_roundw
      case rel => exact ⟨k + 1, by omega, by go_num, hbel.drew⟩
      case measure => simp [intOf]; omega
    · go_wp2
      go_ret
      exact ⟨rfl, hbel⟩


/-- the numbers k, k + 1 .. -/
def run (k : Int) (n : Nat) : List Int := (List.range n).map fun i : Nat => k + (i : Int)
theorem run_len (k : Int) (n : Nat) : (run k n).length = n := by simp [run]
theorem run_get (k : Int) (n i : Nat) (h : i < n) : (run k n)[i]? = some (k + (i : Int)) := by simp [run, h]

/-- the row, marked up to place j -/
def part (k : Int) (xs : List Int) (j : Nat) : List Int := run k j ++ xs.drop j
theorem part_zero (k : Int) (xs : List Int) : part k xs 0 = xs := by simp [part, run]
theorem part_all (k : Int) (xs : List Int) : part k xs xs.length = run k xs.length := by simp [part]
theorem part_len (k : Int) (xs : List Int) (j : Nat) (h : j ≤ xs.length) : (part k xs j).length = xs.length := by simp [part, run_len]; omega
theorem part_set (k : Int) (xs : List Int) (j : Nat) (h : j < xs.length) : (part k xs j).set j (k + (j : Int)) = part k xs (j + 1) := by
  have e : xs.drop j = xs[j] :: xs.drop (j + 1) := by rw [List.drop_eq_getElem_cons h]
  have er : run k (j + 1) = run k j ++ [k + (j : Int)] := by simp [run, List.range_succ]
  rw [part, part, e, er, List.set_append_right _ _ (by rw [run_len]; exact Nat.le_refl _), run_len, Nat.sub_self, List.set_cons_zero, List.append_assoc]
  rfl

/-- a number is stored into an owned row -/
theorem Row.set {w : World} {base g c i : Nat} {n : Nat} {xs : List Int} (h : Row w base (.slice (some ⟨g, 0, none⟩) n c) xs) (x : Int) :
    Row (w.setCell ⟨g, i, none⟩ (.int .i64 x)) base (.slice (some ⟨g, 0, none⟩) n c) (xs.set i x) := by
  obtain ⟨hl, hr⟩ := h
  refine ⟨by simp, ?_⟩
  rcases hr with ⟨hv, _⟩ | ⟨g', cap, cur, hv, hb, hc, hnc, hcm, hcs, ht⟩
  · cases hv
  · cases hv
    refine Or.inr ⟨g, c, cur.setIfInBounds i (.int .i64 x), by rw [List.length_set], hb, heap_setCell_same w g i _ 2 _ hc, by rw [List.length_set]; exact hnc, hcm, by simpa using hcs, ?_⟩
    rw [List.length_set, Array.toList_setIfInBounds, List.map_set, ← ht, List.take_set]

set_option maxHeartbeats 1000000 in
theorem mark_none (a : Option Addr) (c : Nat) (k : Int) (w : World) :
    Calls Try.prog 24 #[.slice a 0 c, .int .i64 k] w fun e w' => e = .returned (.int .i64 k) ∧ w' = w := by
  go_enter Try.func24, Try.ntmps24
  go_wp2
  go_loop [1, 5] (fun tk i => i = .int .i64 0 ∧ tk = .int .i64 k) (fun _ _ => 0)
  case atStart => exact ⟨rfl, rfl⟩
  case round =>
    obtain ⟨rfl, rfl⟩ := hrel
    go_wp2
    go_ret
    exact ⟨rfl, rfl⟩

set_option maxHeartbeats 1000000 in
theorem mark_row {w : World} {base : Nat} {v : Value} {xs : List Int} {k : Int} (h : Row w base v xs) (hn : xs.length ≤ 1000000000) (hk0 : 0 ≤ k) (hk1 : k ≤ 1000000000) :
    Calls Try.prog 24 #[v, .int .i64 k] w fun e w' => e = .returned (.int .i64 (k + xs.length)) ∧ Row w' base v (run k xs.length) ∧ Below base w w' ∧ w'.heap.size = w.heap.size := by
  by_cases h0 : xs.length = 0
  · obtain ⟨a, c, ha⟩ := h.form
    have e : xs = [] := List.eq_nil_of_length_eq_zero h0
    subst e
    rw [ha] at h ⊢
    refine (mark_none a c k w).mono ?_
    rintro e w' ⟨rfl, rfl⟩
    exact ⟨by simp, h, Below.refl _ _, rfl⟩
  obtain ⟨g, c, rfl, hbg, hg, _, _⟩ := h.at (by omega)
  obtain ⟨n, hx⟩ : ∃ n, n = xs.length := ⟨_, rfl⟩
  rw [← hx] at h hn ⊢
  have HX : Hid _ := hx
  have HP : Hid _ := h
  have hn0 : 0 < n := by omega
  clear hx h h0
  go_enter Try.func24, Try.ntmps24
  go_wp2
  go_loopw [1, 5] (fun tk i wr => ∃ j : Nat, j ≤ n ∧ i = .int .i64 j ∧ tk = .int .i64 (k + j) ∧ Hid (Row wr base (.slice (some ⟨g, 0, none⟩) n c) (part k xs j)) ∧ Below base w wr ∧ Hid (wr.heap.size = w.heap.size)) (fun _ i _ => n - (intOf i).toNat)
  case atStart => exact ⟨0, by omega, rfl, by simp, by rw [part_zero]; exact HP.out, Below.refl _ _, rfl⟩
  case round =>
    obtain ⟨j, hj, rfl, rfl, HR, hbel, HS⟩ := hrel
    by_cases hlt : j < n
    · have hpl := part_len k xs j (by rw [← HX.out]; exact hj)
      obtain ⟨hc, hf⟩ := HR.out.cells
      obtain ⟨old, hc1⟩ : ∃ old, wr.cell? ⟨g, j, none⟩ = some (.int .i64 old) := ⟨_, hc j (by rw [hpl, ← HX.out]; exact hlt)⟩
      have hf1 := hf j
      have H2 : Hid (Row (wr.setCell ⟨g, j, none⟩ (.int .i64 (k + j))) base (.slice (some ⟨g, 0, none⟩) n c) (part k xs (j + 1))) := by
        rw [← part_set k xs j (by rw [← HX.out]; exact hlt)]
        exact HR.out.set _
      clear hc hf hpl HR
      go_wp2
      go_roundw
      case rel => exact ⟨j + 1, by omega, by go_num, by go_num, H2, hbel.setCell hbg _, by rw [← HS.out]; exact World.size_setCell _ _ _⟩
      case measure => simp [intOf]; omega
    · obtain rfl : j = n := by omega
      go_wp2
      go_ret
      exact ⟨rfl, by have := HR.out; rw [HX.out, part_all, ← HX.out] at this; exact this, hbel, HS.out⟩

set_option maxHeartbeats 1000000 in
theorem held_none (a : Option Addr) (c : Nat) (k : Int) (w : World) :
    Calls Try.prog 26 #[.slice a 0 c, .int .i64 k] w fun e w' => e = .returned (.int .i64 k) ∧ w' = w := by
  go_enter Try.func26, Try.ntmps26
  go_wp2
  go_loop [1, 5] (fun tk i => i = .int .i64 0 ∧ tk = .int .i64 k) (fun _ _ => 0)
  case atStart => exact ⟨rfl, rfl⟩
  case round =>
    obtain ⟨rfl, rfl⟩ := hrel
    go_wp2
    go_ret
    exact ⟨rfl, rfl⟩

set_option maxHeartbeats 1000000 in
theorem held_row {w : World} {base : Nat} {v : Value} {n : Nat} {k : Int} (h : Row w base v (run k n)) (hn : n ≤ 1000000000) (hk0 : 0 ≤ k) (hk1 : k ≤ 1000000000) :
    Calls Try.prog 26 #[v, .int .i64 k] w fun e w' => e = .returned (.int .i64 (k + n)) ∧ w' = w := by
  by_cases h0 : n = 0
  · subst h0
    obtain ⟨a, c, ha⟩ := h.form
    rw [run_len] at ha
    rw [ha]
    refine (held_none a c k w).mono ?_
    rintro e w' ⟨rfl, rfl⟩
    exact ⟨by simp, rfl⟩
  obtain ⟨g, c, rfl, hbg, hg, hc, _⟩ := h.at (by rw [run_len]; omega)
  rw [run_len]
  have HC : Hid (∀ i : Nat, i < n → w.cell? ⟨g, i, none⟩ = some (.int .i64 (k + (i : Int)))) := fun i hi => by
    have h1 := hc i (by rw [run_len]; exact hi)
    have h2 := run_get k n i hi
    rw [List.getElem?_eq_getElem (by rw [run_len]; exact hi)] at h2
    injection h2 with h2
    rw [h1, h2]
  have hn0 : 0 < n := by omega
  clear hc h h0
  go_enter Try.func26, Try.ntmps26
  go_wp2
  go_loop [1, 5] (fun tk i => ∃ j : Nat, j ≤ n ∧ i = .int .i64 j ∧ tk = .int .i64 (k + j)) (fun _ i => n - (intOf i).toNat)
  case atStart => exact ⟨0, by omega, rfl, by simp⟩
  case round =>
    obtain ⟨j, hj, rfl, rfl⟩ := hrel
    by_cases hlt : j < n
    · have hc1 := HC.out j hlt
      go_wp2
      go_round
      case rel => exact ⟨j + 1, by omega, by go_num, by go_num⟩
      case measure => simp [intOf]; omega
    · obtain rfl : j = n := by omega
      go_wp2
      go_ret
      exact ⟨rfl, rfl⟩
end Go.Proofs.Ytljgcdemepjpaaa.irows
