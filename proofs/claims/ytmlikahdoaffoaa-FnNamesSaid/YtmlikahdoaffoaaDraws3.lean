/-
  The draws of a number and of a text: a number of 64 bits; a text of at most 20001 bytes.
-/
import Derived.Test.YtmlikahdoaffoaaDraws2
import Derived.Deep.OwnRows
namespace Go.Proofs.Ytmlikahdoaffoaa.draws
open Go.RowKit Go.Deep
open Go.Proofs.Ytmlikahdoaffoaa
set_option linter.unusedVariables false

/-- what a draw of a number leaves -/
def IPost (B : Nat) (x : Option Addr) (len cap : Nat) (w : World) (e : Ending) (w' : World) : Prop :=
  ∃ v : Int, e = .returned (.int .i64 v) ∧ -9223372036854775808 ≤ v ∧ v ≤ 9223372036854775807 ∧ IsSrc w' B x len cap ∧ w.grownBy w' (some B)

def edges : Array Value := #[.int .i64 0, .int .i64 1, .int .i64 (-1), .int .i64 2, .int .i64 1000, .int .i64 1001, .int .i64 2147483648, .int .i64 2147483647, .int .i64 (-2147483648), .int .i64 4611686018427387904, .int .i64 9223372036854775807, .int .i64 (-9223372036854775808), .int .i64 1000000, .int .i64 1000001]
theorem edge_at (k : Nat) (hk : k < 14) : ∃ y : Int, -9223372036854775808 ≤ y ∧ y ≤ 9223372036854775807 ∧ edges[k]? = some (.int .i64 y) := by
  match k, hk with
  | 0, _ => exact ⟨_, by decide, by decide, rfl⟩
  | 1, _ => exact ⟨_, by decide, by decide, rfl⟩
  | 2, _ => exact ⟨_, by decide, by decide, rfl⟩
  | 3, _ => exact ⟨_, by decide, by decide, rfl⟩
  | 4, _ => exact ⟨_, by decide, by decide, rfl⟩
  | 5, _ => exact ⟨_, by decide, by decide, rfl⟩
  | 6, _ => exact ⟨_, by decide, by decide, rfl⟩
  | 7, _ => exact ⟨_, by decide, by decide, rfl⟩
  | 8, _ => exact ⟨_, by decide, by decide, rfl⟩
  | 9, _ => exact ⟨_, by decide, by decide, rfl⟩
  | 10, _ => exact ⟨_, by decide, by decide, rfl⟩
  | 11, _ => exact ⟨_, by decide, by decide, rfl⟩
  | 12, _ => exact ⟨_, by decide, by decide, rfl⟩
  | 13, _ => exact ⟨_, by decide, by decide, rfl⟩

set_option maxHeartbeats 1000000 in
theorem edge_any (B : Nat) (x : Option Addr) (len cap : Nat) (w : World) (hBl : B < w.heap.size) (h : IsSrc w B x len cap) (hby : Byts w x len B) :
    Calls Try.prog 39 #[.pointer (some ⟨B, 0, none⟩)] w (IPost B x len cap w) := by
  have hg0 : w.grownBy (w.alloc (.cells edges 2)) (some B) := World.grownBy_alloc w _ _
  have hcall := n_any B x len cap (w.alloc (.cells edges 2)) 14 (IsSrc.other h (World.grownBy_alloc w _ none) hBl (by simp)) (hby.kept hg0) (by omega)
  have HC : Hid _ := hcall
  have HG0 : Hid _ := hg0
  have hrow : (w.alloc (.cells edges 2)).heap[w.heap.size]? = some (.cells edges 2 (0, 0)) := (MapKept.heap_alloc w _).1
  have HR : Hid _ := hrow
  clear hcall hg0 h hby hrow
  go_enter Try.func39, Try.ntmps39
  go_wp2_with fail
  refine Calls.mono HC.out ?_
  rintro e w1 ⟨v, rfl, hv0, hv1, hs1, hg1⟩
  obtain ⟨k, rfl⟩ := Int.eq_ofNat_of_zero_le hv0
  have hk : k < 14 := by omega
  obtain ⟨y, hy0, hy1, hy⟩ := edge_at k hk
  have hc : w1.cell? ⟨w.heap.size, k, none⟩ = some (.int .i64 y) := by
    rw [cell_of_row w1 w.heap.size k edges 2 (0, 0) ((hg1.block _ (by simp) (by simp; omega)).trans HR.out)]
    exact hy
  have HS1 : Hid (IsSrc w1 B x len cap) := hs1
  have HG1 : Hid (w.grownBy w1 (some B)) := grown_trans HG0.out hg1
  clear hs1 hg1 hv0 hv1 hy HC HG0 HR
  go_wp2
  go_ret
  exact ⟨y, rfl, hy0, hy1, HS1.out, HG1.out⟩

/-- what DrawPutText leaves -/
def DText (w : World) (e : Ending) (w' : World) : Prop := ∃ t : ByteArray, e = .returned (.string t) ∧ t.size ≤ 20001 ∧ Below w.heap.size w w'

theorem made_zero (n : Nat) : (madeCells #[Value.int .u8 0] n).toList = (List.replicate n (0 : Int)).map (Value.int .u8) := by
  simp only [madeCells, Array.toList_map, Array.toList_range]
  apply List.ext_getElem
  · simp
  · intro i h1 h2
    simp [Nat.mod_one]

/-- a new row of noughts as a text -/
theorem conv_zero (n : Nat) (w : World) : (convert 36 9 (.slice (some ⟨w.heap.size, 0, none⟩) n n)).run Try.prog (w.alloc (.cells (madeCells #[.int .u8 0] n) 5)) = .ok (.string (strOfNums (List.replicate n 0))) (w.alloc (.cells (madeCells #[.int .u8 0] n) 5)) := by
  refine run_convert_bytes_arg (P := Try.prog) _ 36 5 Try.underlying36 Try.underlying5 w.heap.size 0 n n (List.replicate n 0) (by simp) (fun i hi => ?_) 9 Try.underlying9
  rw [Nat.zero_add, cell_of_row _ w.heap.size i _ 5 (0, 0) (MapKept.heap_alloc w _).1, ← Array.getElem?_toList, made_zero, List.getElem?_map]
  simp [hi]

end Go.Proofs.Ytmlikahdoaffoaa.draws
