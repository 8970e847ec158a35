/-
  The program's ArenaRight, at every arena. No condition.
-/
import Derived.Test.YtohgafblffnekaaArenaShelf
namespace Go.Proofs.Ytohgafblffnekaa.deep
open Go.RowKit Go.Deep Go.Maps
open Go.Proofs.Ytohgafblffnekaa
set_option linter.unusedVariables false

/-- what shelfOf tells, as far as ArenaRight asks -/
theorem shelf_tells {a : ArenaD} {w w' : World} {e : Ending} (h : ShelfPost a w e w') : ∃ x0 x1 x2 sa sn sc m, e = .returned (.tuple #[.agg #[.int .i64 x0, .int .i64 x1, .int .i64 x2, .slice sa sn sc, .map m], .bool a.right]) ∧ Below w.heap.size w w' := by
  cases ha : a.right with
  | true =>
    obtain ⟨ga, gc, b, n, f, he, _, _, _, _, _, hb⟩ := h.1 ha
    exact ⟨_, _, _, _, _, _, _, he, hb⟩
  | false =>
    obtain ⟨he, hb⟩ := h.2 ha
    exact ⟨_, _, _, _, _, _, _, he, hb⟩
theorem im_right (a : ArenaD) {lo : Nat} {w : World} {v : Value} (h : RowE SlotE 15 lo w v a.slots) : Calls Try.prog 27 #[.agg (acells a v).toArray] w fun e w' => e = .returned (.bool a.right) ∧ Below w.heap.size w w' := by
  have HS : Hid (∀ W, Below w.heap.size w W → Calls Try.prog 34 #[.agg #[.int .i64 a.label, .int .i64 a.key, .int .i64 a.count, v]] W fun e w' => ∃ x0 x1 x2 sa sn sc m, e = .returned (.tuple #[.agg #[.int .i64 x0, .int .i64 x1, .int .i64 x2, .slice sa sn sc, .map m], .bool a.right]) ∧ Below W.heap.size W w') := fun W hW => (im_shelf a (h.below slot_stays hW)).mono fun e w' h => shelf_tells h
  obtain ⟨aa, c, hv, _⟩ := h.form
  simp only [acells]
  generalize a.right = r at *
  generalize a.label = lb at *
  generalize a.key = ky at *
  generalize a.count = ct at *
  obtain ⟨n, hn⟩ : ∃ n, n = a.slots.length := ⟨_, rfl⟩
  rw [← hn] at hv
  clear h hn
  subst hv
  go_enter Try.func27, Try.ntmps27
  go_wp2_with fail
  refine Calls.mono (HS.out _ (below_one w _)) ?_
  rintro e w1 ⟨x0, x1, x2, sa, sn, sc, m, rfl, hb1⟩
  have HB1 : Hid (Below w.heap.size w w1) := below_tr (below_one w _) hb1
  clear hb1
  go_wp2_with fail
  go_ret
  exact ⟨rfl, HB1.out.alloc HB1.out.size _⟩
end Go.Proofs.Ytohgafblffnekaa.deep
