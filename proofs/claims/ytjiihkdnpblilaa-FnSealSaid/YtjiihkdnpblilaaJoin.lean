/-
  The walks of joined and fresh: both texts behind each other, in new memory.
-/
import Derived.Test.YtjiihkdnpblilaaRows
import Derived.WalkKit
import Derived.ProofKit
import Derived.WalkLawsBesides
import Derived.Deep.OwnRows
import Derived.Laws.CopyOwn
import Derived.Lib.SlBuf
import Derived.Lib.BufferWrite
import Derived.Lib.SlBytesRow
namespace Go.Proofs.Ytjiihkdnpblilaa.join
open Go.RowKit Go.Deep

theorem info5 : (Try.prog.info? 5).map (fun i => (i.zero, i.size, i.bytes)) = some (some (.int .u8 0), 1, 1) := by kernel_rfl
theorem size5 : (Try.prog.info? 5).map (·.size) = some 1 := by kernel_rfl

/-- a text goes over into a row of the call's own -/
theorem copy_to (W : World) (g o n m : Nat) (s : ByteArray) (cur : List Value) (hg : W.heap[g]? = some (.cells cur.toArray 5 (0, 0))) (hle : s.size ≤ n) (hfit : o + s.size ≤ cur.length) (B : Nat) (hB : B ≤ g) :
    ∃ W1, (Builtin.copy_ #[22, 9] 3 #[.slice (some ⟨g, o, none⟩) n m, .string s]).run Try.prog W = .ok (.int .i64 s.size) W1 ∧
      Hid (W1.heap[g]? = some (.cells (cur.take o ++ Lib.byteCells s.data.toList ++ cur.drop (o + s.size)).toArray 5 (0, 0))) ∧ Below B W W1 := by
  refine ⟨_, Lib.run_copy_row_string (P := Try.prog) W 22 9 3 5 g o n m s cur.toArray 5 Try.underlying22 size5 hg hle (by simpa using hfit), ?_, below_setRow (Below.refl _ _) hB _⟩
  exact setRow_heap W g _ _ 5 _ hg

theorem row_bytes {W : World} {g : Nat} {cs : List Value} {s : ByteArray} (h : W.heap[g]? = some (.cells cs.toArray 5 (0, 0))) (e : cs = Lib.byteCells s.data.toList) : Lib.Bytes W g 0 s := by
  intro i hi
  subst e
  have hl : i < s.data.toList.length := by simpa using hi
  have e1 : (Lib.byteCells s.data.toList)[i]? = some (.int .u8 (s[i].toNat : Int)) := by
    simp only [Lib.byteCells, List.getElem?_map, List.getElem?_eq_getElem hl, Option.map_some]
    rfl
  simp only [World.cell?, h, Nat.zero_add]
  simpa using e1

theorem conv_to (W : World) (g n : Nat) (s : ByteArray) (hn : s.size = n) (h : Lib.Bytes W g 0 s) :
    (convert 22 9 (.slice (some ⟨g, 0, none⟩) n n)).run Try.prog W = .ok (.string s) W := by
  subst hn
  exact Lib.run_convert_whole (P := Try.prog) W 22 5 9 Try.underlying22 Try.underlying5 Try.underlying9 g 0 s h _

theorem cells_two (Z : List Value) (p q : ByteArray) (hZ : Z.length = p.size + q.size) :
    (Z.take 0 ++ Lib.byteCells p.data.toList ++ Z.drop (0 + p.size)).take p.size ++ Lib.byteCells q.data.toList ++ (Z.take 0 ++ Lib.byteCells p.data.toList ++ Z.drop (0 + p.size)).drop (p.size + q.size) = Lib.byteCells (p ++ q).data.toList := by
  have hp : (Lib.byteCells p.data.toList).length = p.size := by rw [Lib.byteCells_length, ← Lib.size_eq]
  have e1 : (p ++ q).data.toList = p.data.toList ++ q.data.toList := by simp
  have e3 : (Z.take 0 ++ Lib.byteCells p.data.toList ++ Z.drop (0 + p.size)).drop (p.size + q.size) = [] := List.drop_eq_nil_of_le (by simp [hp]; omega)
  rw [e1, Lib.byteCells_append, e3, List.append_nil, Nat.zero_add, List.take_zero, List.nil_append]
  congr 1
  exact List.take_left' hp

theorem cells_one (Z : List Value) (p q : ByteArray) (hZ : Z.length = p.size + q.size) (h0 : q.size = 0) :
    Z.take 0 ++ Lib.byteCells p.data.toList ++ Z.drop (0 + p.size) = Lib.byteCells (p ++ q).data.toList := by
  have e1 : (p ++ q).data.toList = p.data.toList ++ q.data.toList := by simp
  have e2 : q.data.toList = [] := List.eq_nil_of_length_eq_zero (by rw [← Lib.size_eq]; exact h0)
  have e3 : Z.drop (0 + p.size) = [] := List.drop_eq_nil_of_le (by omega)
  rw [e1, e2, e3, List.take_zero]
  simp

set_option maxHeartbeats 400000 in
set_option maxRecDepth 100000 in
theorem joined_any (p q : ByteArray) (w : World) (hp : p.size ≤ 1000000000) (hq : q.size ≤ 1000000000) :
    Calls Try.prog 17 #[.string p, .string q] w fun e w' => e = .returned (.string (p ++ q)) ∧ Below w.heap.size w w' := by
  have hmk := run_make_row' (P := Try.prog) 22 5 (.int .u8 0) 1 Try.underlying22 info5 rfl .i64 .i64 (p.size + q.size) (by omega) (by omega)
  have ec : ((p.size + q.size : Nat) : Int) = (p.size : Int) + (q.size : Int) := by omega
  rw [ec] at hmk
  clear ec
  have hg0 : (w.alloc (.cells (madeCells #[.int .u8 0] (p.size + q.size)) 5)).heap[w.heap.size]? = some (.cells (madeCells #[.int .u8 0] (p.size + q.size)).toList.toArray 5 (0, 0)) := by rw [Array.toArray_toList]; exact (MapKept.heap_alloc w _).1
  have hl0 : (madeCells #[Value.int .u8 0] (p.size + q.size)).toList.length = p.size + q.size := by simp [size_madeCells]
  have hb0 : Below w.heap.size w (w.alloc (.cells (madeCells #[.int .u8 0] (p.size + q.size)) 5)) := (Below.refl _ _).alloc (Nat.le_refl _) _
  obtain ⟨W1, hr1, hg1, hb1⟩ := copy_to _ w.heap.size 0 (p.size + q.size) (p.size + q.size) p _ hg0 (by omega) (by omega) w.heap.size (Nat.le_refl _)
  have HB1 := hb0.trans hb1
  have hlp : (Lib.byteCells p.data.toList).length = p.size := by rw [Lib.byteCells_length, ← Lib.size_eq]
  have hr2e := Lib.run_copy_empty_string (P := Try.prog) W1 22 9 3 5 (some ⟨w.heap.size, 0, none⟩) 0 0 ByteArray.empty Try.underlying22 (by rw [size5]; rfl) rfl
  have hcve := fun h0 : q = ByteArray.empty => conv_to W1 w.heap.size p.size p rfl (row_bytes hg1.out (by have := cells_one _ p q hl0 (by rw [h0]; rfl); rw [this, h0]; simp))
  obtain ⟨W2, hr2, hg2, hb2⟩ := copy_to W1 w.heap.size p.size q.size q.size q _ hg1.out (Nat.le_refl _) (by simp [hlp, hl0]) w.heap.size (Nat.le_refl _)
  have HB2 := HB1.trans hb2
  have hcv := conv_to W2 w.heap.size (p.size + q.size) (p ++ q) (by simp) (row_bytes hg2.out (cells_two _ p q hl0))
  clear hg0 hb0 hb1 hl0 hlp hg1 hg2 hb2
  go_enter Try.func17, Try.ntmps17
  go_wp2
  · go_ret
    exact ⟨by rw [‹q = ByteArray.empty›]; simp, HB1⟩
  · go_ret
    exact ⟨rfl, HB2⟩

theorem add_nothing (p : ByteArray) : p ++ (⟨#[]⟩ : ByteArray) = p := by
  apply ByteArray.ext
  simp

theorem fresh_any (p : ByteArray) (w : World) (hp : p.size ≤ 1000000000) :
    Calls Try.prog 21 #[.string p] w fun e w' => e = .returned (.string p) ∧ Below w.heap.size w w' := by
  go_enter Try.func21, Try.ntmps21
  go_wp2_with (go_at_call 17; refine (joined_any _ _ _ hp (by decide)).mono ?_; rintro e w' ⟨rfl, hb⟩)
  go_ret
  exact ⟨by rw [add_nothing]; rfl, hb⟩
end Go.Proofs.Ytjiihkdnpblilaa.join
