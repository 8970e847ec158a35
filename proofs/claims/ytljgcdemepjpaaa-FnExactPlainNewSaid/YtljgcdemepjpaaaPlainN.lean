/-
  PlainNew, the specification's and the program's: what it answers, and in which blocks of its own that lies. No condition.
-/
import Derived.Test.YtljgcdemepjpaaaNest
import Derived.Deep.CutRange
namespace Go.Proofs.Ytljgcdemepjpaaa.deep
open Go.RowKit Go.Deep
set_option linter.unusedVariables false
set_option maxRecDepth 100000

def nilS : Value := .slice none 0 0
def nils16 : List Value := List.replicate 16 (.slice none 0 0)
theorem info_sl : (Try.prog.info? 26).map (fun i => (i.zero, i.size, i.bytes)) = some (some (.slice none 0 0), 1, 24) := by kernel_rfl
theorem made16 : madeCells #[(Value.slice none 0 0)] 16 = nils16.toArray := by
  apply Array.ext
  · simp [madeCells, nils16]
  · intro i h1 h2
    have h3 : i < 16 := by simpa [madeCells] using h1
    have h4 : nils16.toArray[i]'h2 = Value.slice none 0 0 := by
      simp only [List.getElem_toArray]
      exact List.getElem_replicate _
    rw [h4]
    simp [madeCells, Nat.mod_one]
theorem make16 (W : World) : (Instr.makeSlice 25 (.int .i64 16) (.int .i64 16)).run Try.prog W = .ok (.slice (some ⟨W.heap.size, 0, none⟩) 16 16) (W.alloc (.cells nils16.toArray 26)) := by
  rw [← made16]
  exact run_make_row' (P := Try.prog) 25 26 (.slice none 0 0) 24 Try.underlying25 info_sl rfl .i64 .i64 16 (by decide) (by decide) W
theorem blk_at {w : World} {B t : Nat} {cs : List Value} (e : B = w.heap.size) : Blk (w.alloc (.cells cs.toArray t)) B t cs := by subst e; exact blk_new w cs t
theorem blk_past {w : World} {B t : Nat} {cs : List Value} {o : Obj} (h : Blk w B t cs) : Blk (w.alloc o) B t cs := h.later (below_one _ _)
theorem blk_drew {w : World} {B t : Nat} {cs : List Value} (h : Blk w B t cs) : Blk w.drew B t cs := h
/-- a box in the root's name: the thing's cells -/
def tcells (i g : Int) : List Value := [.int .i64 0, .int .i64 i, .int .i64 g, .int .i64 1, .int .i64 0, .int .i64 5, .int .i64 0, .int .i64 0, .int .i64 0, .slice none 0 0, .slice none 0 0]
def hcells (i g : Int) : List Value := [.int .i64 0, .int .i64 i, .int .i64 g]
/-- a plain kernel with the root alone, in four blocks of its own -/
def PAns (i g : Int) (lo : Nat) (w : World) (v : Value) : Prop := ∃ T L E : Nat, v = .agg #[.slice (some ⟨T, 0, none⟩) 1 1, .slice (some ⟨L, 0, none⟩) 16 16, .slice (some ⟨E, 0, none⟩) 1 1, .int .i64 0] ∧ ∃ H : Nat, Blk w L 26 (nils16.set 0 (.slice (some ⟨H, 0, none⟩) 1 1)) ∧ Blk w T 40 (tcells i g) ∧ Blk w H 32 (hcells i g) ∧ Blk w E 32 (hcells i g) ∧ (lo ≤ T ∧ lo ≤ L ∧ lo ≤ H ∧ lo ≤ E) ∧ (T ≠ L ∧ T ≠ H ∧ T ≠ E ∧ L ≠ H ∧ L ≠ E ∧ H ≠ E)
def noAns : Value := .agg #[.slice none 0 0, .slice none 0 0, .slice none 0 0, .int .i64 1]

theorem impl_no (b i g : Int) (w : World) (h : ¬ b = 0) : Calls Try.prog 6 #[.agg #[.int .i64 b, .int .i64 i, .int .i64 g]] w fun e w' => e = .returned noAns ∧ Below w.heap.size w w' := by
  go_enter Try.func6, Try.ntmps6
  go_wp2
  exact bodyPost_ret (v := .agg #[.slice none 0 0, .slice none 0 0, .slice none 0 0, .int .i64 1]) (by simp [results, Try.results6, go_sem]) rfl ⟨rfl, below2 _ _ _⟩
theorem spec_no (b i g : Int) (w : World) (h : ¬ b = 0) : Calls Try.prog 4 #[.agg #[.int .i64 b, .int .i64 i, .int .i64 g]] w fun e w' => e = .returned noAns ∧ Below w.heap.size w w' := by
  go_enter Try.func4, Try.ntmps4
  go_wp2
  exact bodyPost_ret (v := .agg #[.slice none 0 0, .slice none 0 0, .slice none 0 0, .int .i64 1]) (by simp [results, Try.results4, go_sem]) rfl ⟨rfl, below2 _ _ _⟩
set_option maxHeartbeats 1000000 in
theorem impl_yes (i g : Int) (w : World) : Calls Try.prog 6 #[.agg #[.int .i64 0, .int .i64 i, .int .i64 g]] w fun e w' => ∃ v, e = .returned v ∧ PAns i g w.heap.size w' v ∧ Below w.heap.size w w' := by
  unfold PAns tcells hcells
  have hmk := make16
  have h0 : nils16[0]? = some (Value.slice none 0 0) := rfl
  generalize nils16 = N at *
  go_enter Try.func6, Try.ntmps6
  go_wp2
  refine bodyPost_ret (by simp [results, Try.results6, go_sem]; exact rfl) rfl ?_
  refine ⟨_, rfl, ⟨_, _, _, rfl, ?_⟩, ?_⟩
  · apply Exists.intro
    refine ⟨?_, ?_, ?_, ?_, ?_, ?_⟩
    iterate 4 (· (repeat (first | (with_reducible refine blk_at ?_; (simp; done)) | with_reducible refine blk_past ?_ | with_reducible refine blk_drew ?_)))
    · omega
    · omega
  · repeat (first | with_reducible exact Below.refl _ _ | with_reducible refine Below.alloc ?_ (by simp; try omega) _ | with_reducible refine Below.drew ?_)
set_option maxHeartbeats 8000000 in
theorem spec_yes (i g : Int) (w : World) : Calls Try.prog 4 #[.agg #[.int .i64 0, .int .i64 i, .int .i64 g]] w fun e w' => ∃ v, e = .returned v ∧ PAns i g w.heap.size w' v ∧ Below w.heap.size w w' := by
  unfold PAns tcells hcells
  have hmk := make16
  have h0 : nils16[0]? = some (Value.slice none 0 0) := rfl
  generalize nils16 = N at *
  go_enter Try.func4, Try.ntmps4
  go_wp2
  go_region
  all_goals (
    go_wp2
    refine bodyPost_ret (by simp [results, Try.results4, go_sem]; exact rfl) rfl ?_
    refine ⟨_, rfl, ⟨_, _, _, rfl, ?_⟩, ?_⟩
    · apply Exists.intro
      refine ⟨?_, ?_, ?_, ?_, ?_, ?_⟩
      iterate 4 (· (repeat (first | (with_reducible refine blk_at ?_; (simp; done)) | with_reducible refine blk_past ?_ | with_reducible refine blk_drew ?_)))
      · omega
      · omega
    · repeat (first | with_reducible exact Below.refl _ _ | with_reducible refine Below.alloc ?_ (by simp; try omega) _ | with_reducible refine Below.drew ?_))
end Go.Proofs.Ytljgcdemepjpaaa.deep
