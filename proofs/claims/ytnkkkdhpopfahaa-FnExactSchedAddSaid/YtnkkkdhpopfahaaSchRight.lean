/-
  A Sched in plain words, and the specification's SchedRight. No condition.
-/
import Derived.Test.YtnkkkdhpopfahaaRowTask
import Derived.Test.YtnkkkdhpopfahaaRowInt
import Derived.Test.YtnkkkdhpopfahaaLabel
import Derived.Deep.CutRange
namespace Go.Proofs.Ytnkkkdhpopfahaa.sch
open Go.RowKit Go.Deep Go.Sort
open Go.Proofs.Ytnkkkdhpopfahaa
open Go.Proofs.Ytnkkkdhpopfahaa.deep
set_option linter.unusedVariables false
set_option maxRecDepth 100000

abbrev Tt := Int × Int × Int
structure SchedD where
  order : List Int
  now : Int
  tasks : List Tt
/-- a Sched in memory: its two lists -/
def SF (lo : Nat) (w : World) (vo vt : Value) (x : SchedD) : Prop := RowE (Plain cint) 1 lo w vo x.order ∧ RowE (Plain ctk) 3 lo w vt x.tasks
theorem SF.later {lo : Nat} {w w' : World} {vo vt : Value} {x : SchedD} (h : SF lo w vo vt x) (hb : Below w.heap.size w w') : SF lo w' vo vt x := ⟨h.1.below (plain_stays _) hb, h.2.below (plain_stays _) hb⟩
def isB (n a b : Int) : Bool := decide (a ≤ n ∧ n ≤ b)
theorem isB_of {n a b : Int} : isB n a b = true ↔ a ≤ n ∧ n ≤ b := by simp [isB]
def orderB (l : List Int) : Bool := l.all label.rightB && (decide (1 ≤ l.length) && decide (l.length ≤ 16))
/-- how often a label is among the first -/
def oftTo (l : List Int) (b : Int) (j : Nat) : Nat := ((l.take j).filter (· == b)).length
def oft (l : List Int) (b : Int) : Nat := oftTo l b l.length
theorem oft_step {l : List Int} {b : Int} {j : Nat} (h : j < l.length) : oftTo l b (j + 1) = oftTo l b j + (if l[j] == b then 1 else 0) := by
  simp only [oftTo]
  rw [List.take_add_one, List.getElem?_eq_getElem h, List.filter_append, List.length_append]
  congr 1
  by_cases e : l[j] = b <;> simp [e]
theorem oft_le (l : List Int) (b : Int) (j : Nat) : oftTo l b j ≤ j := by
  have h1 := List.length_filter_le (· == b) (l.take j)
  have h2 : (l.take j).length ≤ j := by rw [List.length_take]; omega
  unfold oftTo; omega
def taskB (l : List Int) (t : Tt) : Bool := decide (0 < oft l t.1) && (isB t.2.1 1 9999 && isB t.2.2 1 99)
/-- the place of a task, or -1 -/
def atN (ts : List Tt) (b i : Int) : Option Nat := ts.findIdx? fun t => t.1 == b && t.2.1 == i
def atI (ts : List Tt) (b i : Int) : Int := match atN ts b i with | some n => (n : Int) | none => -1
theorem at_hit {ts : List Tt} {b i : Int} {k : Nat} (hk : k < ts.length) (h : (ts[k].1 == b && ts[k].2.1 == i) = true) (hn : ∀ j (hj : j < ts.length), j < k → (ts[j].1 == b && ts[j].2.1 == i) = false) : atI ts b i = (k : Int) := by
  have : atN ts b i = some k := by
    unfold atN
    rw [List.findIdx?_eq_some_iff_getElem]
    exact ⟨hk, h, fun j hj => by rw [hn j (by omega) hj]; simp⟩
  rw [atI, this]
theorem at_miss {ts : List Tt} {b i : Int} (hn : ∀ j (hj : j < ts.length), (ts[j].1 == b && ts[j].2.1 == i) = false) : atI ts b i = -1 := by
  have : atN ts b i = none := by
    unfold atN
    rw [List.findIdx?_eq_none_iff]
    intro x hx
    obtain ⟨j, hj, rfl⟩ := List.getElem_of_mem hx
    exact hn j hj
  rw [atI, this]
/-- is the first of tasks right -/
def okAt (x : SchedD) (j : Nat) (h : j < x.tasks.length) : Bool := taskB x.order x.tasks[j] && (atI x.tasks x.tasks[j].1 x.tasks[j].2.1 == (j : Int))
def schedB (x : SchedD) : Bool := orderB x.order && (isB x.now 0 999999 && (decide (x.tasks.length ≤ 40) && decide (∀ j (h : j < x.tasks.length), okAt x j h = true)))

/-- a row of numbers, cell by cell -/
theorem int_at {lo : Nat} {w : World} {v : Value} {xs : List Int} (h : RowE (Plain cint) 1 lo w v xs) : ∃ a c, v = .slice a xs.length c ∧ xs.length ≤ maxLen ∧ (0 < xs.length → ∃ g o, a = some ⟨g, o, none⟩ ∧ g < w.heap.size ∧ ∀ i (hi : i < xs.length), w.cell? ⟨g, o + i, none⟩ = some (.int .i64 xs[i])) := by
  obtain ⟨a, c, rfl, hm, h3⟩ := h
  refine ⟨a, c, rfl, hm, fun h0 => ?_⟩
  obtain ⟨g, o, ha, _, hg, hc⟩ := h3 h0
  refine ⟨g, o, ha, hg, fun i hi => ?_⟩
  obtain ⟨cs, _, hcc, rfl⟩ := hc i hi
  have := hcc 0 (by decide)
  rw [show o + i * 1 + 0 = o + i by omega] at this
  exact this
theorem tk_at {lo : Nat} {w : World} {v : Value} {xs : List Tt} (h : RowE (Plain ctk) 3 lo w v xs) : ∃ a c, v = .slice a xs.length c ∧ xs.length ≤ maxLen ∧ (0 < xs.length → ∃ g o, a = some ⟨g, o, none⟩ ∧ g < w.heap.size ∧ ∀ i (hi : i < xs.length), w.cell? ⟨g, o + i * 3, none⟩ = some (.int .i64 xs[i].1) ∧ w.cell? ⟨g, o + i * 3 + 1, none⟩ = some (.int .i64 xs[i].2.1) ∧ w.cell? ⟨g, o + i * 3 + 2, none⟩ = some (.int .i64 xs[i].2.2)) := by
  obtain ⟨a, c, rfl, hm, h3⟩ := h
  refine ⟨a, c, rfl, hm, fun h0 => ?_⟩
  obtain ⟨g, o, ha, _, hg, hc⟩ := h3 h0
  refine ⟨g, o, ha, hg, fun i hi => ?_⟩
  obtain ⟨cs, _, hcc, rfl⟩ := hc i hi
  exact ⟨hcc 0 (by decide), hcc 1 (by decide), hcc 2 (by decide)⟩

theorem spec_isS (n a b : Int) (w : World) : Calls Try.prog 37 #[.int .i64 n, .int .i64 a, .int .i64 b] w fun e w' => e = .returned (.bool (isB n a b)) ∧ w' = w := by
  by_cases h1 : a ≤ n
  · by_cases h2 : n ≤ b
    · have e : isB n a b = true := isB_of.2 ⟨h1, h2⟩
      rw [e]
      go_enter Try.func37, Try.ntmps37
      go_wp2
      go_ret
      exact ⟨by simp, rfl⟩
    · have e : isB n a b = false := by simp [isB]; omega
      rw [e]
      go_enter Try.func37, Try.ntmps37
      go_wp2
      go_ret
      exact ⟨by simp, rfl⟩
  · have e : isB n a b = false := by simp [isB]; omega
    rw [e]
    go_enter Try.func37, Try.ntmps37
    go_wp2
    go_ret
    exact ⟨rfl, rfl⟩

set_option maxHeartbeats 2000000 in
theorem spec_order {lo : Nat} {w : World} {v : Value} {xs : List Int} (h : RowE (Plain cint) 1 lo w v xs) : Calls Try.prog 36 #[v] w fun e w' => e = .returned (.bool (orderB xs)) ∧ w' = w := by
  obtain ⟨a, c, rfl, hm, h3⟩ := int_at h
  have HR : Hid (∀ l W, Calls Try.prog 58 #[.int .i64 l] W fun e w' => e = .returned (.bool (label.rightB l)) ∧ w' = W) := fun l W => label.spec_right l W
  obtain ⟨n, hn⟩ : ∃ n, n = xs.length := ⟨_, rfl⟩
  have HN : Hid (n = xs.length) := hn
  have H3 : Hid (0 < xs.length → ∃ g o, a = some ⟨g, o, none⟩ ∧ g < w.heap.size ∧ ∀ i (hi : i < xs.length), w.cell? ⟨g, o + i, none⟩ = some (.int .i64 xs[i])) := h3
  rw [← hn] at hm ⊢
  unfold maxLen at hm
  clear hn h3 h
  go_enter Try.func36, Try.ntmps36
  go_wp2
  go_loop [3] (fun ti => ∃ j : Nat, j ≤ n ∧ ti = .int .i64 j ∧ Hid (∀ i (hi : i < xs.length), i < j → label.rightB xs[i] = true)) (fun ti => n - (intOf ti).toNat)
  case atStart => exact ⟨0, by omega, rfl, fun i _ h => absurd h (by omega)⟩
  case round =>
    obtain ⟨j, hj, rfl, H⟩ := hrel
    by_cases hlt : j < n
    · have hlx : j < xs.length := by rw [← HN.out]; exact hlt
      obtain ⟨g, o, rfl, hg, hc⟩ := H3.out (by omega)
      have e0 := hc j hlx
      have HST : Hid (label.rightB xs[j] = true → ∀ i (hi : i < xs.length), i < j + 1 → label.rightB xs[i] = true) := fun h i hi hlt2 => by
        by_cases e : i = j
        · subst e; exact h
        · exact H.out i hi (by omega)
      have HNO : Hid (label.rightB xs[j] = false → orderB xs = false) := fun h => by
        have : xs.all label.rightB = false := by
          rw [List.all_eq_false]
          exact ⟨xs[j], List.getElem_mem _, by rw [h]; simp⟩
        simp [orderB, this]
      have HRJ := HR.out xs[j]
      clear hc
      generalize xs[j] = q at *
      cases hq : label.rightB q with
      | true =>
        rw [hq] at HRJ
        have HS : Hid _ := HST.out hq
        clear HST HNO hq
        go_wp2_with (go_at_call 58; refine Calls.mono (HRJ _) ?_; rintro e w1 ⟨rfl, rfl⟩)
        go_round
        case rel => exact ⟨j + 1, by omega, by go_num, HS.out⟩
        case measure => simp [intOf]; omega
      | false =>
        rw [hq] at HRJ
        have HS : Hid _ := HNO.out hq
        clear HST HNO hq
        go_wp2_with (go_at_call 58; refine Calls.mono (HRJ _) ?_; rintro e w1 ⟨rfl, rfl⟩)
        go_ret
        exact ⟨by rw [HS.out]; rfl, rfl⟩
    · obtain rfl : j = n := by omega
      have HALL : Hid (orderB xs = (decide (1 ≤ j) && decide (j ≤ 16))) := by
        have : xs.all label.rightB = true := by
          rw [List.all_eq_true]
          intro x hx
          obtain ⟨i, hi, rfl⟩ := List.getElem_of_mem hx
          exact H.out i hi (by rw [HN.out]; exact hi)
        rw [Hid, orderB, this, Bool.true_and, HN.out]
      by_cases h1 : 1 ≤ j
      · by_cases h16 : j ≤ 16
        · have HE : Hid (orderB xs = true) := by rw [Hid, HALL.out]; simp [h1, h16]
          clear HALL
          go_wp2
          go_ret
          exact ⟨by rw [HE.out]; simp; omega, rfl⟩
        · have HE : Hid (orderB xs = false) := by rw [Hid, HALL.out]; simp [h16]
          clear HALL
          go_wp2
          go_ret
          exact ⟨by rw [HE.out]; simp; omega, rfl⟩
      · have HE : Hid (orderB xs = false) := by rw [Hid, HALL.out]; simp [h1]
        clear HALL
        go_wp2
        go_ret
        exact ⟨by rw [HE.out]; rfl, rfl⟩
set_option maxHeartbeats 2000000 in
theorem spec_often (b : Int) {lo : Nat} {w : World} {v : Value} {xs : List Int} (h : RowE (Plain cint) 1 lo w v xs) : Calls Try.prog 48 #[v, .int .i64 b] w fun e w' => e = .returned (.int .i64 (oft xs b)) ∧ w' = w := by
  obtain ⟨a, c, rfl, hm, h3⟩ := int_at h
  obtain ⟨n, hn⟩ : ∃ n, n = xs.length := ⟨_, rfl⟩
  have HN : Hid (n = xs.length) := hn
  have H3 : Hid (0 < xs.length → ∃ g o, a = some ⟨g, o, none⟩ ∧ g < w.heap.size ∧ ∀ i (hi : i < xs.length), w.cell? ⟨g, o + i, none⟩ = some (.int .i64 xs[i])) := h3
  unfold oft
  rw [← hn] at hm ⊢
  unfold maxLen at hm
  clear hn h3 h
  go_enter Try.func48, Try.ntmps48
  go_wp2
  go_loop [5, 6] (fun tk ti => ∃ j q : Nat, j ≤ n ∧ q ≤ j ∧ ti = .int .i64 j ∧ tk = .int .i64 q ∧ Hid (q = oftTo xs b j)) (fun _ ti => n - (intOf ti).toNat)
  case atStart => exact ⟨0, 0, by omega, by omega, rfl, rfl, by simp [Hid, oftTo]⟩
  case round =>
    obtain ⟨j, q, hj, hq, rfl, rfl, H⟩ := hrel
    by_cases hlt : j < n
    · have hlx : j < xs.length := by rw [← HN.out]; exact hlt
      obtain ⟨g, o, rfl, hg, hc⟩ := H3.out (by omega)
      have e0 := hc j hlx
      have HS : Hid (oftTo xs b (j + 1) = q + (if xs[j] == b then 1 else 0)) := by rw [Hid, H.out]; exact oft_step hlx
      clear hc
      generalize xs[j] = x at *
      cases hx : x == b with
      | true =>
        have HS2 : Hid (q + 1 = oftTo xs b (j + 1)) := by rw [Hid, HS.out, hx]; rfl
        clear HS
        go_wp2
        go_round
        case rel => exact ⟨j + 1, q + 1, by omega, by omega, by go_num, by go_num, HS2.out⟩
        case measure => simp [intOf]; omega
      | false =>
        have HS2 : Hid (q = oftTo xs b (j + 1)) := by rw [Hid, HS.out, hx]; rfl
        clear HS
        go_wp2
        go_round
        case rel => exact ⟨j + 1, q, by omega, by omega, by go_num, rfl, HS2.out⟩
        case measure => simp [intOf]; omega
    · obtain rfl : j = n := by omega
      have e := H.out
      clear H
      subst e
      go_wp2
      go_ret
      exact ⟨rfl, rfl⟩
end Go.Proofs.Ytnkkkdhpopfahaa.sch
