/-
  The walk of the program's add: one more block in the map.
-/
import Derived.Test.YtcokchfedaoccabBuddyPool
import Derived.Test.YtcokchfedaoccabBuddyImpl2
namespace Go.Proofs.Ytcokchfedaoccab.bpool
open Go.RowKit Go.Deep Go.Maps Go.Sort
open Go.Proofs.Ytcokchfedaoccab
open Go.Proofs.Ytcokchfedaoccab.brows
open Go.Proofs.Ytcokchfedaoccab.bspec
open Go.Proofs.Ytcokchfedaoccab.bimpl
open Go.Proofs.Ytcokchfedaoccab.bd (Blk)
set_option linter.unusedVariables false

theorem grown_below {w w' : World} (h : Below w.heap.size w w') (row : Option Nat) : w.grownBy w' row := ⟨h.os, h.tape, h.output, h.size, fun k hk _ => h.block k hk⟩
theorem grown_trans {a c d : World} {row : Option Nat} (h : a.grownBy c row) (k : c.grownBy d row) : a.grownBy d row :=
  ⟨k.os.trans h.os, k.tape.trans h.tape, k.output.trans h.output, Nat.le_trans h.size k.size, fun i hi hr => (k.block i (Nat.lt_of_lt_of_le hi h.size) hr).trans (h.block i hi hr)⟩
theorem grown_cell {w w' : World} {b X : Nat} {i : Nat} {v : Value} (hg : w.grownBy w' (some b)) (h : w.cell? ⟨X, i, none⟩ = some v) (hne : X ≠ b) : w'.cell? ⟨X, i, none⟩ = some v := hg.cell h (by simp; omega)

/-- what add leaves -/
def AddPost (b n : Nat) (l : List Blk) (w : World) (e : Ending) (w' : World) : Prop := e = .returned (.tuple #[]) ∧ Pool w' b (n + 1) l ∧ w.grownBy w' (some b)

theorem four_cells {V W : World} {B : Nat} {a b c d : Value} (h : Below V.heap.size V W) (hB : B + 1 < V.heap.size) (x0 : V.cell? ⟨B, 0, none⟩ = some a) (x1 : V.cell? ⟨B, 1, none⟩ = some b) (q0 : V.cell? ⟨B + 1, 0, none⟩ = some c) (q1 : V.cell? ⟨B + 1, 1, none⟩ = some d) :
    W.cell? ⟨B, 0, none⟩ = some a ∧ W.cell? ⟨B, 1, none⟩ = some b ∧ W.cell? ⟨B + 1, 0, none⟩ = some c ∧ W.cell? ⟨B + 1, 1, none⟩ = some d := by
  have hB' : B < V.heap.size := by omega
  exact ⟨(h.cell (p := ⟨B, 0, none⟩) hB').trans x0, (h.cell (p := ⟨B, 1, none⟩) hB').trans x1, (h.cell (p := ⟨B + 1, 0, none⟩) hB).trans q0, (h.cell (p := ⟨B + 1, 1, none⟩) hB).trans q1⟩
theorem four_grown {V W : World} {B k : Nat} {a b c d : Value} (h : V.grownBy W (some k)) (h0 : B ≠ k) (h1 : B + 1 ≠ k)
    (hx : V.cell? ⟨B, 0, none⟩ = some a ∧ V.cell? ⟨B, 1, none⟩ = some b ∧ V.cell? ⟨B + 1, 0, none⟩ = some c ∧ V.cell? ⟨B + 1, 1, none⟩ = some d) :
    W.cell? ⟨B, 0, none⟩ = some a ∧ W.cell? ⟨B, 1, none⟩ = some b ∧ W.cell? ⟨B + 1, 0, none⟩ = some c ∧ W.cell? ⟨B + 1, 1, none⟩ = some d :=
  ⟨grown_cell h hx.1 h0, grown_cell h hx.2.1 h0, grown_cell h hx.2.2.1 h1, grown_cell h hx.2.2.2 h1⟩

set_option maxHeartbeats 2000000 in
theorem impl_add (m : Int) (b n : Nat) (l : List Blk) (y : Blk) (hy : y.1 < 64) (ho : y.2 ≤ 5) (w : World) (hp : Pool w b n l) (hn : n < 1000) :
    Calls Try.prog 60 #[.agg #[.int .i64 m, .map (some b)], .agg #[.int .i64 y.1, .int .i64 y.2]] w (AddPost b n (y :: l) w) := by
  have HS : Hid (∀ W, _) := fun W => impl_pages (y.1 : Int) y.2 ho W
  have HWF : Hid (Wf (emb y)) := wf_emb (by omega) (by omega)
  have HP : Hid (Pool w b n l) := hp
  have hb := hp.lt
  have HST : Hid (∀ W, Pool W b n l → ∃ w', (Instr.mapUpdate 58 (.map (some b)) (.agg #[.int .i64 y.1, .int .i64 y.2]) (.int .i64 ((2 ^ y.2 : Nat) : Int))).run Try.prog W = .ok () w' ∧ Pool w' b (n + 1) (y :: l) ∧ W.grownBy w' (some b)) := fun W hW => hW.store hn HWF.out ho
  clear hp
  generalize 2 ^ y.2 = s at *
  go_enter Try.func60, Try.ntmps60
  go_wp2_with fail
  obtain ⟨V, hV⟩ : ∃ V, V = (w.alloc (.cells #[.int .i64 m, .map (some b)] 60)).alloc (.cells #[.int .i64 y.1, .int .i64 y.2] 68) := ⟨_, rfl⟩
  have HBV : Hid (Below w.heap.size w V) := by rw [hV]; exact ((Below.refl _ _).alloc (Nat.le_refl _) _).alloc (by simp) _
  have hV2 : w.heap.size + 1 < V.heap.size := by rw [hV]; simp
  have X0 : V.cell? ⟨w.heap.size, 0, none⟩ = some (.int .i64 m) := by rw [hV]; simp
  have X1 : V.cell? ⟨w.heap.size, 1, none⟩ = some (.map (some b)) := by rw [hV]; simp
  have Q0 : V.cell? ⟨w.heap.size + 1, 0, none⟩ = some (.int .i64 y.1) := by rw [hV]; simp
  have Q1 : V.cell? ⟨w.heap.size + 1, 1, none⟩ = some (.int .i64 y.2) := by rw [hV]; simp
  rw [← hV]
  clear hV
  go_region_held3 (fun W => W.cell? ⟨w.heap.size, 0, none⟩ = some (.int .i64 m) ∧ W.cell? ⟨w.heap.size, 1, none⟩ = some (.map (some b)) ∧ W.cell? ⟨w.heap.size + 1, 0, none⟩ = some (.int .i64 y.1) ∧ W.cell? ⟨w.heap.size + 1, 1, none⟩ = some (.int .i64 y.2))
    (first | assumption | exact ⟨X0, X1, Q0, Q1⟩ | exact Z | exact Y)
    (first | (go_at_call 48; refine Calls.mono (HS.out _) ?_; rintro e w1 ⟨rfl, hb1⟩; have hb2 : Below V.heap.size V w1 := Below.trans (Below.drew (Below.refl V.heap.size V)) hb1; have Z := four_cells hb2 hV2 X0 X1 Q0 Q1; have HB1 : Hid (Below V.heap.size V w1) := hb2; have HP1 : Hid (Pool w1 b n l) := HP.out.below (HBV.out.trans (hb2.mono HBV.out.size)) hb; obtain ⟨w2, hr2, hp2, hg2⟩ := HST.out _ HP1.out; have Y := four_grown hg2 (by omega) (by omega) Z; have HP2 : Hid _ := hp2; have HG2 : Hid _ := hg2; clear hb1 hb2 hp2 hg2))
  go_wp2_with fail
  go_end0
  refine ⟨rfl, HP2.out, ?_⟩
  exact grown_trans (grown_below (HBV.out.trans (HB1.out.mono HBV.out.size)) _) HG2.out
end Go.Proofs.Ytcokchfedaoccab.bpool
