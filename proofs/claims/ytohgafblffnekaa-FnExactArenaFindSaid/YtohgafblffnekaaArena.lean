/-
  Arenas as they lie in memory: what their cells read as; measured, made anew and compared by the laws' helpers.
-/
import Derived.Test.YtohgafblffnekaaSlotTo
import Derived.Test.YtohgafblffnekaaSlotEq
namespace Go.Proofs.Ytohgafblffnekaa.deep
open Go.RowKit Go.Deep Go.Sort
set_option linter.unusedVariables false

structure ArenaD where
  label : Int
  key : Int
  count : Int
  slots : List SlotD
def acells (a : ArenaD) (v : Value) : List Value := [.int .i64 a.label, .int .i64 a.key, .int .i64 a.count, v]
def ArenaE : Reader ArenaD := fun lo w cs a => ∃ v, cs = acells a v ∧ RowE SlotE 15 lo w v a.slots
theorem arena_stays : Stays ArenaE := fun lo w w' cs o h hk => by
  obtain ⟨v, rfl, h⟩ := h
  exact ⟨v, rfl, rowE_stays slot_stays h hk⟩
theorem arena_lowers : Lowers ArenaE := fun lo lo' w cs o h hl => by
  obtain ⟨v, rfl, h⟩ := h
  exact ⟨v, rfl, rowE_lowers slot_lowers h hl⟩
def ArenaD.bulk (a : ArenaD) : Nat := a.slots.length + bulkS a.slots

theorem to_st (k c : Int) (w : World) : Calls Try.prog 32 #[.agg #[.int .i64 k, .int .i64 c]] w fun e w' => e = .returned (.agg #[.int .i64 k, .int .i64 c]) ∧ Below w.heap.size w w' := by
  go_enter Try.func32, Try.ntmps32
  go_wp2
  exact bodyPost_ret (v := .agg #[.int .i64 k, .int .i64 c]) (by simp [results, Try.results32, go_sem]) rfl ⟨rfl, below3 w _ _ _⟩
theorem eq_st (k c : Int) (w : World) : Calls Try.prog 36 #[.agg #[.int .i64 k, .int .i64 c], .agg #[.int .i64 k, .int .i64 c]] w fun e w' => e = .returned (.bool true) ∧ Below w.heap.size w w' := by
  go_enter Try.func36, Try.ntmps36
  go_wp2
  go_ret
  exact ⟨rfl, below2 w _ _⟩

set_option maxHeartbeats 2000000 in
theorem sz_arena (a : ArenaD) {lo : Nat} {w : World} {v : Value} (h : RowE SlotE 15 lo w v a.slots) (k : Int) (hk0 : 0 ≤ k) (hk1 : k ≤ 1048576) : Calls Try.prog 6 #[.agg (acells a v).toArray, .int .i64 k] w fun e w' => e = .returned (.int .i64 (if (a.bulk : Int) ≤ k then k - a.bulk else -1)) ∧ Below w.heap.size w w' := by
  obtain ⟨lb, ky, ct, xs⟩ := a
  simp only at h
  have H1 : Hid (∀ W, Below w.heap.size w W → Calls Try.prog 30 #[v, .int .i64 k] W fun e w' => e = .returned (.int .i64 (if ((ArenaD.bulk ⟨lb, ky, ct, xs⟩ : Nat) : Int) ≤ k then k - ((ArenaD.bulk ⟨lb, ky, ct, xs⟩ : Nat) : Int) else -1)) ∧ Below W.heap.size W w') := fun W hW => sz_slots (h.below slot_stays hW) k hk0 hk1
  obtain ⟨a, c, hv, _⟩ := h.form
  generalize ArenaD.bulk ⟨lb, ky, ct, xs⟩ = b at H1 ⊢
  simp only [acells]
  obtain ⟨n, hn⟩ : ∃ n, n = xs.length := ⟨_, rfl⟩
  rw [← hn] at hv
  clear h hn
  subst hv
  by_cases hk : (b : Int) ≤ k
  · rw [if_pos hk] at H1 ⊢
    go_enter Try.func6, Try.ntmps6
    go_wp2_with fail
    refine Calls.mono (H1.out _ (below_one w _)) ?_
    rintro e w1 ⟨rfl, hb1⟩
    have HB1 : Hid (Below w.heap.size w w1) := below_tr (below_one w _) hb1
    clear hb1
    go_wp2_with fail
    go_ret
    exact ⟨rfl, HB1.out⟩
  · rw [if_neg hk] at H1 ⊢
    go_enter Try.func6, Try.ntmps6
    go_wp2_with fail
    refine Calls.mono (H1.out _ (below_one w _)) ?_
    rintro e w1 ⟨rfl, hb1⟩
    have HB1 : Hid (Below w.heap.size w w1) := below_tr (below_one w _) hb1
    clear hb1
    go_wp2_with fail
    go_ret
    exact ⟨rfl, HB1.out⟩

def ToArena (a : ArenaD) (w : World) (e : Ending) (w' : World) : Prop := ∃ v', e = .returned (.agg (acells a v').toArray) ∧ RowE SlotE 15 w.heap.size w' v' a.slots ∧ Below w.heap.size w w'
set_option maxHeartbeats 4000000 in
theorem to_arena (a : ArenaD) {lo : Nat} {w : World} {v : Value} (h : RowE SlotE 15 lo w v a.slots) (hb : a.bulk ≤ 1048576) : Calls Try.prog 8 #[.agg (acells a v).toArray] w (ToArena a w) := by
  obtain ⟨lb, ky, ct, xs⟩ := a
  simp only [ArenaD.bulk] at h hb
  have T1 : Hid (∀ W, _) := fun W => to_st ky ct W
  have T2 : Hid (∀ W, Below w.heap.size w W → Calls Try.prog 33 #[v] W (ToSlots xs W)) := fun W hW => to_slots (h.below slot_stays hW) (by omega) (by omega)
  obtain ⟨a, c, hv, _⟩ := h.form
  simp only [acells]
  generalize xs.length = n at hv
  subst hv
  clear h hb
  go_enter Try.func8, Try.ntmps8
  go_wp2_with fail
  refine Calls.mono (T1.out _) ?_
  rintro e w1 ⟨rfl, hb1⟩
  have F := blk3 w [.int .i64 lb, .int .i64 ky, .int .i64 ct, .slice a n c] [.int .i64 0, .int .i64 0, .int .i64 0, .slice none 0 0] [.int .i64 lb, .int .i64 0, .int .i64 0, .slice none 0 0] 26 34 34
  have HB1 : Hid (Below w.heap.size w w1) := below_tr (below3 w _ _ _) hb1
  have HA1 : Hid (Blk w1 w.heap.size 26 [.int .i64 lb, .int .i64 ky, .int .i64 ct, .slice a n c]) := F.1.later hb1
  have HR1 : Hid (Blk w1 (w.heap.size + 1) 34 [.int .i64 0, .int .i64 0, .int .i64 0, .slice none 0 0]) := F.2.1.later hb1
  have HO1 : Hid (Blk w1 (w.heap.size + 1 + 1) 34 [.int .i64 lb, .int .i64 0, .int .i64 0, .slice none 0 0]) := F.2.2.later hb1
  have hs1 : w.heap.size + 3 ≤ w1.heap.size := by have := hb1.size; rw [size3] at this; exact this
  clear hb1 F
  have a3 : w1.cell? ⟨w.heap.size, 3, none⟩ = some (.slice a n c) := HA1.out.cell 3
  have o1 : w1.cell? ⟨w.heap.size + 1 + 1, 1, none⟩ = some (.int .i64 0) := HO1.out.cell 1
  have o2 : w1.cell? ⟨w.heap.size + 1 + 1, 2, none⟩ = some (.int .i64 0) := HO1.out.cell 2
  have y1 := HO1.out.free 1
  have y2 := HO1.out.free 2
  go_wp2_with fail
  have HP1 : Hid (Below w.heap.size w (putW w1 (w.heap.size + 1 + 1) 1 [.int .i64 ky, .int .i64 ct])) := putW_below [.int .i64 ky, .int .i64 ct] HB1.out (by omega)
  refine Calls.mono (T2.out _ HP1.out) ?_
  rintro e w2 ⟨v2, rfl, hr2, hb2⟩
  have HB2 : Hid (Below w.heap.size w w2) := below_tr HP1.out hb2
  have HR2 : Hid (Blk w2 (w.heap.size + 1) 34 [.int .i64 0, .int .i64 0, .int .i64 0, .slice none 0 0]) := (HR1.out.other [.int .i64 ky, .int .i64 ct] (w.heap.size + 1 + 1) 1 (by omega)).later hb2
  have HO2 : Hid (Blk w2 (w.heap.size + 1 + 1) 34 [.int .i64 lb, .int .i64 ky, .int .i64 ct, .slice none 0 0]) := (HO1.out.put [.int .i64 ky, .int .i64 ct] 1).later hb2
  have HS2 : Hid (RowE SlotE 15 (w.heap.size + 3) w2 v2 xs) := rowE_lowers slot_lowers hr2 (by simp; omega)
  obtain ⟨b2, c2, hv2, _⟩ := hr2.form
  generalize xs.length = n2 at hv2
  subst hv2
  clear hr2 hb2 HP1 HB1 HA1 HR1 HO1 a3 o1 o2 y1 y2
  have o0 : w2.cell? ⟨w.heap.size + 1 + 1, 0, none⟩ = some (.int .i64 lb) := HO2.out.cell 0
  have o1 : w2.cell? ⟨w.heap.size + 1 + 1, 1, none⟩ = some (.int .i64 ky) := HO2.out.cell 1
  have o2 : w2.cell? ⟨w.heap.size + 1 + 1, 2, none⟩ = some (.int .i64 ct) := HO2.out.cell 2
  have o3 : w2.cell? ⟨w.heap.size + 1 + 1, 3, none⟩ = some (.slice none 0 0) := HO2.out.cell 3
  have y3 := HO2.out.free 3
  have r0 : w2.cell? ⟨w.heap.size + 1, 0, none⟩ = some (.int .i64 0) := HR2.out.cell 0
  have r1 : w2.cell? ⟨w.heap.size + 1, 1, none⟩ = some (.int .i64 0) := HR2.out.cell 1
  have r2 : w2.cell? ⟨w.heap.size + 1, 2, none⟩ = some (.int .i64 0) := HR2.out.cell 2
  have r3 : w2.cell? ⟨w.heap.size + 1, 3, none⟩ = some (.slice none 0 0) := HR2.out.cell 3
  have q0 := HR2.out.free 0
  have q1 := HR2.out.free 1
  have q2 := HR2.out.free 2
  have q3 := HR2.out.free 3
  go_wp2_with fail
  have HK : Hid (Keep (w.heap.size + 3) w2 (putW (putW w2 (w.heap.size + 1 + 1) 3 [.slice b2 n2 c2]) (w.heap.size + 1) 0 [.int .i64 lb, .int .i64 ky, .int .i64 ct, .slice b2 n2 c2])) := (putW_keep [.slice b2 n2 c2] w2 (w.heap.size + 1 + 1) 3 _ (by omega)).trans (putW_keep [.int .i64 lb, .int .i64 ky, .int .i64 ct, .slice b2 n2 c2] _ (w.heap.size + 1) 0 _ (by omega))
  refine bodyPost_ret (v := .agg #[.int .i64 lb, .int .i64 ky, .int .i64 ct, .slice b2 n2 c2]) (by simp [results, Try.results8, go_sem, r0, r1, r2, r3]) rfl ⟨_, rfl, ?_, ?_⟩
  · exact rowE_lowers slot_lowers (rowE_stays slot_stays HS2.out HK.out) (by omega)
  · exact putW_below [.int .i64 lb, .int .i64 ky, .int .i64 ct, .slice b2 n2 c2] (putW_below [.slice b2 n2 c2] (b := 3) HB2.out (g := w.heap.size + 1 + 1) (by omega)) (by omega) (b := 0)

set_option maxHeartbeats 4000000 in
theorem eq_arena (a : ArenaD) {l1 l2 : Nat} {w : World} {v u : Value} (h1 : RowE SlotE 15 l1 w v a.slots) (h2 : RowE SlotE 15 l2 w u a.slots) : Calls Try.prog 11 #[.agg (acells a v).toArray, .agg (acells a u).toArray] w fun e w' => e = .returned (.bool true) ∧ Below w.heap.size w w' := by
  obtain ⟨lb, ky, ct, xs⟩ := a
  simp only at h1 h2
  have T1 : Hid (∀ W, _) := fun W => eq_st ky ct W
  have T2 : Hid (∀ W, Below w.heap.size w W → Calls Try.prog 37 #[v, u] W fun e w' => e = .returned (.bool true) ∧ Below W.heap.size W w') := fun W hW => eq_slots (h1.below slot_stays hW) (h2.below slot_stays hW)
  obtain ⟨a, c, hv, _⟩ := h1.form
  obtain ⟨b, d, hu, _⟩ := h2.form
  simp only [acells]
  generalize xs.length = n at hv hu
  subst hv hu
  clear h1 h2
  go_enter Try.func11, Try.ntmps11
  go_wp2_with fail
  refine Calls.mono (T1.out _) ?_
  rintro e w1 ⟨rfl, hb1⟩
  have F := blk2 w [.int .i64 lb, .int .i64 ky, .int .i64 ct, .slice a n c] [.int .i64 lb, .int .i64 ky, .int .i64 ct, .slice b n d] 34 34
  have HB1 : Hid (Below w.heap.size w w1) := below_tr (below2 w _ _) hb1
  have x3 : w1.cell? ⟨w.heap.size, 3, none⟩ = some (.slice a n c) := (F.1.later hb1).cell 3
  have y3 : w1.cell? ⟨w.heap.size + 1, 3, none⟩ = some (.slice b n d) := (F.2.later hb1).cell 3
  clear hb1 F
  go_wp2_with fail
  refine Calls.mono (T2.out _ HB1.out) ?_
  rintro e w2 ⟨rfl, hb2⟩
  have HB2 : Hid (Below w.heap.size w w2) := below_tr HB1.out hb2
  clear hb2 x3 y3
  go_wp2_with fail
  go_ret
  exact ⟨rfl, HB2.out⟩
end Go.Proofs.Ytohgafblffnekaa.deep
