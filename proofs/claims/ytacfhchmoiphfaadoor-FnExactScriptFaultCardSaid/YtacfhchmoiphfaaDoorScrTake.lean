/-
  What stands for a letter is read into a call: the specification's l12Take. Condition: at most 8000 bytes.
-/
import Derived.Test.YtacfhchmoiphfaaDoorScrRefR
namespace Go.Proofs.YtacfhchmoiphfaaDoor.scr
open Go.RowKit Go.Deep Go.Sort
open Go.Proofs.YtacfhchmoiphfaaDoor
open Go.Proofs.YtacfhchmoiphfaaDoor.deep (Blk putW putL)
open Go.Proofs.YtacfhchmoiphfaaDoor.call (CallD ccall)
open Go.Proofs.YtacfhchmoiphfaaDoor.lread (outL)
set_option linter.unusedVariables false
set_option maxRecDepth 100000

/-- the kind of that name, or what was there -/
def kindR (t : ByteArray) (d : Int) : Int := if kindB 3 = t then 3 else if kindB 2 = t then 2 else if kindB 1 = t then 1 else d
/-- a call with what is read for a letter -/
def takeL (d : CallD) (a : Int) (t : ByteArray) : CallD :=
  if a = 65 then { d with q2 := (refR t).1, q3 := (refR t).2 } else if a = 66 then { d with q4 := (refR t).1, q5 := (refR t).2 } else if a = 75 then { d with q6 := kindR t d.q6 } else if a = 76 then { d with q7 := (outL t).1 } else if a = 88 then { d with q6 := numT t } else if a = 89 then { d with q7 := numT t } else if a = 90 then { d with q8 := numT t } else d
/-- all is as it was, but for the block B and what is new -/
structure Only (B : Nat) (w w' : World) : Prop where
  size : w.heap.size ≤ w'.heap.size
  other : ∀ g, g ≠ B → g < w.heap.size → w'.heap[g]? = w.heap[g]?
  below : ∀ n u, Below n u w → n ≤ B → Below n u w'
theorem Only.refl (B : Nat) (w : World) : Only B w w := ⟨Nat.le_refl _, fun _ _ _ => rfl, fun _ _ h _ => h⟩
theorem Only.put (B : Nat) (w : World) (b : Nat) (vs : List Value) : Only B w (putW w B b vs) := ⟨by rw [deep.putW_size]; exact Nat.le_refl _, fun g hg _ => deep.putW_other vs w B b g hg, fun n u h hn => deep.putW_below vs h hn⟩
theorem Only.of {B : Nat} {w w' : World} (h : Below w.heap.size w w') (hB : B < w.heap.size) : Only B w w' := ⟨h.size, fun g _ hl => h.block g hl, fun n u hu hn => hu.trans (h.mono (by omega))⟩
theorem Only.trans {B : Nat} {a b c : World} (h : Only B a b) (k : Only B b c) : Only B a c := ⟨Nat.le_trans h.size k.size, fun g hg hl => (k.other g hg (Nat.lt_of_lt_of_le hl h.size)).trans (h.other g hg hl), fun n u hu hn => k.below n u (h.below n u hu hn) hn⟩
/-- what l12Take leaves: the call at B, all else as it was -/
def Taken (B : Nat) (w : World) (d : CallD) (e : Ending) (w' : World) : Prop := e = .returned (.tuple #[]) ∧ Blk w' B 26 (ccall d) ∧ Only B w w'
theorem str_ne {x s : ByteArray} (h : ¬ x = s) : (x.toList == s.toList) = false := by
  rw [beq_eq_false_iff_ne]
  intro e
  rw [ByteArray.toList_eq, ByteArray.toList_eq] at e
  exact h (ByteArray.ext (Array.toList_inj.1 e))
theorem str_eq {x s : ByteArray} (h : x = s) : (x.toList == s.toList) = true := by rw [h]; simp


set_option maxHeartbeats 2000000 in
theorem take_A (d : CallD) (t : ByteArray) (ht : t.size ≤ 8000) (B : Nat) (w : World) (hx : Blk w B 26 (ccall d)) : Calls Tryd.prog 37 #[.pointer (some ⟨B, 0, none⟩), .int .u8 65, .string t] w (Taken B w (takeL d 65 t)) := by
  have HC : Hid (∀ W, Calls Tryd.prog 57 #[.string t] W fun e w' => e = .returned (.agg #[.int .i64 (refR t).1, .int .i64 (refR t).2]) ∧ Below W.heap.size W w') := fun W => spec_refr t ht W
  have HE : Hid (takeL d 65 t = { d with q2 := (refR t).1, q3 := (refR t).2 }) := by simp [Hid, takeL]
  have hf0 := num_field0
  have hlt := hx.lt
  generalize (refR t).1 = va at *
  generalize (refR t).2 = vb at *
  obtain ⟨d0, d1, d2, d3, d4, d5, d6, d7, d8⟩ := d
  have HX : Hid (Blk w B 26 [.int .i64 d0, .int .i64 d1, .int .i64 d2, .int .i64 d3, .int .i64 d4, .int .i64 d5, .int .i64 d6, .int .i64 d7, .int .i64 d8]) := hx
  unfold Taken
  rw [HE.out]
  clear hx HE
  have c0 : w.cell? ⟨B, 0, none⟩ = some (.int .i64 d0) := HX.out.cell 0
  have c1 : w.cell? ⟨B, 1, none⟩ = some (.int .i64 d1) := HX.out.cell 1
  have c2 : w.cell? ⟨B, 2, none⟩ = some (.int .i64 d2) := HX.out.cell 2
  have c3 : w.cell? ⟨B, 3, none⟩ = some (.int .i64 d3) := HX.out.cell 3
  have c4 : w.cell? ⟨B, 4, none⟩ = some (.int .i64 d4) := HX.out.cell 4
  have c5 : w.cell? ⟨B, 5, none⟩ = some (.int .i64 d5) := HX.out.cell 5
  have c6 : w.cell? ⟨B, 6, none⟩ = some (.int .i64 d6) := HX.out.cell 6
  have c7 : w.cell? ⟨B, 7, none⟩ = some (.int .i64 d7) := HX.out.cell 7
  have c8 : w.cell? ⟨B, 8, none⟩ = some (.int .i64 d8) := HX.out.cell 8
  go_enter Tryd.func37, Tryd.ntmps37
  go_wp2_with fail
  refine Calls.mono (HC.out _) ?_
  rintro e w1 ⟨rfl, hb1⟩
  have HX1 : Hid (Blk w1 B 26 [.int .i64 d0, .int .i64 d1, .int .i64 d2, .int .i64 d3, .int .i64 d4, .int .i64 d5, .int .i64 d6, .int .i64 d7, .int .i64 d8]) := HX.out.later hb1
  have HB1 : Hid _ := hb1
  clear hb1 c0 c1 c2 c3 c4 c5 c6 c7 c8
  have c0 : w1.cell? ⟨B, 0, none⟩ = some (.int .i64 d0) := HX1.out.cell 0
  have f0 := HX1.out.free 0
  have c1 : w1.cell? ⟨B, 1, none⟩ = some (.int .i64 d1) := HX1.out.cell 1
  have f1 := HX1.out.free 1
  have c2 : w1.cell? ⟨B, 2, none⟩ = some (.int .i64 d2) := HX1.out.cell 2
  have f2 := HX1.out.free 2
  have c3 : w1.cell? ⟨B, 3, none⟩ = some (.int .i64 d3) := HX1.out.cell 3
  have f3 := HX1.out.free 3
  have c4 : w1.cell? ⟨B, 4, none⟩ = some (.int .i64 d4) := HX1.out.cell 4
  have f4 := HX1.out.free 4
  have c5 : w1.cell? ⟨B, 5, none⟩ = some (.int .i64 d5) := HX1.out.cell 5
  have f5 := HX1.out.free 5
  have c6 : w1.cell? ⟨B, 6, none⟩ = some (.int .i64 d6) := HX1.out.cell 6
  have f6 := HX1.out.free 6
  have c7 : w1.cell? ⟨B, 7, none⟩ = some (.int .i64 d7) := HX1.out.cell 7
  have f7 := HX1.out.free 7
  have c8 : w1.cell? ⟨B, 8, none⟩ = some (.int .i64 d8) := HX1.out.cell 8
  have f8 := HX1.out.free 8
  go_wp2_with fail
  go_end0
  exact ⟨rfl, HX1.out.put [.int .i64 va, .int .i64 vb] 2, (Only.of HB1.out hlt).trans (Only.put B w1 2 [.int .i64 va, .int .i64 vb])⟩

set_option maxHeartbeats 2000000 in
theorem take_B (d : CallD) (t : ByteArray) (ht : t.size ≤ 8000) (B : Nat) (w : World) (hx : Blk w B 26 (ccall d)) : Calls Tryd.prog 37 #[.pointer (some ⟨B, 0, none⟩), .int .u8 66, .string t] w (Taken B w (takeL d 66 t)) := by
  have HC : Hid (∀ W, Calls Tryd.prog 57 #[.string t] W fun e w' => e = .returned (.agg #[.int .i64 (refR t).1, .int .i64 (refR t).2]) ∧ Below W.heap.size W w') := fun W => spec_refr t ht W
  have HE : Hid (takeL d 66 t = { d with q4 := (refR t).1, q5 := (refR t).2 }) := by simp [Hid, takeL]
  have hf0 := num_field0
  have hlt := hx.lt
  generalize (refR t).1 = va at *
  generalize (refR t).2 = vb at *
  obtain ⟨d0, d1, d2, d3, d4, d5, d6, d7, d8⟩ := d
  have HX : Hid (Blk w B 26 [.int .i64 d0, .int .i64 d1, .int .i64 d2, .int .i64 d3, .int .i64 d4, .int .i64 d5, .int .i64 d6, .int .i64 d7, .int .i64 d8]) := hx
  unfold Taken
  rw [HE.out]
  clear hx HE
  have c0 : w.cell? ⟨B, 0, none⟩ = some (.int .i64 d0) := HX.out.cell 0
  have c1 : w.cell? ⟨B, 1, none⟩ = some (.int .i64 d1) := HX.out.cell 1
  have c2 : w.cell? ⟨B, 2, none⟩ = some (.int .i64 d2) := HX.out.cell 2
  have c3 : w.cell? ⟨B, 3, none⟩ = some (.int .i64 d3) := HX.out.cell 3
  have c4 : w.cell? ⟨B, 4, none⟩ = some (.int .i64 d4) := HX.out.cell 4
  have c5 : w.cell? ⟨B, 5, none⟩ = some (.int .i64 d5) := HX.out.cell 5
  have c6 : w.cell? ⟨B, 6, none⟩ = some (.int .i64 d6) := HX.out.cell 6
  have c7 : w.cell? ⟨B, 7, none⟩ = some (.int .i64 d7) := HX.out.cell 7
  have c8 : w.cell? ⟨B, 8, none⟩ = some (.int .i64 d8) := HX.out.cell 8
  go_enter Tryd.func37, Tryd.ntmps37
  go_wp2_with fail
  refine Calls.mono (HC.out _) ?_
  rintro e w1 ⟨rfl, hb1⟩
  have HX1 : Hid (Blk w1 B 26 [.int .i64 d0, .int .i64 d1, .int .i64 d2, .int .i64 d3, .int .i64 d4, .int .i64 d5, .int .i64 d6, .int .i64 d7, .int .i64 d8]) := HX.out.later hb1
  have HB1 : Hid _ := hb1
  clear hb1 c0 c1 c2 c3 c4 c5 c6 c7 c8
  have c0 : w1.cell? ⟨B, 0, none⟩ = some (.int .i64 d0) := HX1.out.cell 0
  have f0 := HX1.out.free 0
  have c1 : w1.cell? ⟨B, 1, none⟩ = some (.int .i64 d1) := HX1.out.cell 1
  have f1 := HX1.out.free 1
  have c2 : w1.cell? ⟨B, 2, none⟩ = some (.int .i64 d2) := HX1.out.cell 2
  have f2 := HX1.out.free 2
  have c3 : w1.cell? ⟨B, 3, none⟩ = some (.int .i64 d3) := HX1.out.cell 3
  have f3 := HX1.out.free 3
  have c4 : w1.cell? ⟨B, 4, none⟩ = some (.int .i64 d4) := HX1.out.cell 4
  have f4 := HX1.out.free 4
  have c5 : w1.cell? ⟨B, 5, none⟩ = some (.int .i64 d5) := HX1.out.cell 5
  have f5 := HX1.out.free 5
  have c6 : w1.cell? ⟨B, 6, none⟩ = some (.int .i64 d6) := HX1.out.cell 6
  have f6 := HX1.out.free 6
  have c7 : w1.cell? ⟨B, 7, none⟩ = some (.int .i64 d7) := HX1.out.cell 7
  have f7 := HX1.out.free 7
  have c8 : w1.cell? ⟨B, 8, none⟩ = some (.int .i64 d8) := HX1.out.cell 8
  have f8 := HX1.out.free 8
  go_wp2_with fail
  go_end0
  exact ⟨rfl, HX1.out.put [.int .i64 va, .int .i64 vb] 4, (Only.of HB1.out hlt).trans (Only.put B w1 4 [.int .i64 va, .int .i64 vb])⟩

set_option maxHeartbeats 2000000 in
theorem take_L (d : CallD) (t : ByteArray) (ht : t.size ≤ 8000) (B : Nat) (w : World) (hx : Blk w B 26 (ccall d)) : Calls Tryd.prog 37 #[.pointer (some ⟨B, 0, none⟩), .int .u8 76, .string t] w (Taken B w (takeL d 76 t)) := by
  have HC : Hid (∀ W, Calls Tryd.prog 36 #[.string t] W fun e w' => e = .returned (.agg #[.int .i64 (outL t).1, .int .i64 0, .int .i64 (outL t).2]) ∧ Below W.heap.size W w') := fun W => lread.spec_read t W (by unfold maxLen; omega)
  have HE : Hid (takeL d 76 t = { d with q7 := (outL t).1 }) := by simp [Hid, takeL]
  have hf0 := num_field0
  have hlt := hx.lt
  generalize (outL t).1 = va at *
  obtain ⟨d0, d1, d2, d3, d4, d5, d6, d7, d8⟩ := d
  have HX : Hid (Blk w B 26 [.int .i64 d0, .int .i64 d1, .int .i64 d2, .int .i64 d3, .int .i64 d4, .int .i64 d5, .int .i64 d6, .int .i64 d7, .int .i64 d8]) := hx
  unfold Taken
  rw [HE.out]
  clear hx HE
  have c0 : w.cell? ⟨B, 0, none⟩ = some (.int .i64 d0) := HX.out.cell 0
  have c1 : w.cell? ⟨B, 1, none⟩ = some (.int .i64 d1) := HX.out.cell 1
  have c2 : w.cell? ⟨B, 2, none⟩ = some (.int .i64 d2) := HX.out.cell 2
  have c3 : w.cell? ⟨B, 3, none⟩ = some (.int .i64 d3) := HX.out.cell 3
  have c4 : w.cell? ⟨B, 4, none⟩ = some (.int .i64 d4) := HX.out.cell 4
  have c5 : w.cell? ⟨B, 5, none⟩ = some (.int .i64 d5) := HX.out.cell 5
  have c6 : w.cell? ⟨B, 6, none⟩ = some (.int .i64 d6) := HX.out.cell 6
  have c7 : w.cell? ⟨B, 7, none⟩ = some (.int .i64 d7) := HX.out.cell 7
  have c8 : w.cell? ⟨B, 8, none⟩ = some (.int .i64 d8) := HX.out.cell 8
  go_enter Tryd.func37, Tryd.ntmps37
  go_wp2_with fail
  refine Calls.mono (HC.out _) ?_
  rintro e w1 ⟨rfl, hb1⟩
  have HX1 : Hid (Blk w1 B 26 [.int .i64 d0, .int .i64 d1, .int .i64 d2, .int .i64 d3, .int .i64 d4, .int .i64 d5, .int .i64 d6, .int .i64 d7, .int .i64 d8]) := HX.out.later hb1
  have HB1 : Hid _ := hb1
  clear hb1 c0 c1 c2 c3 c4 c5 c6 c7 c8
  have c0 : w1.cell? ⟨B, 0, none⟩ = some (.int .i64 d0) := HX1.out.cell 0
  have f0 := HX1.out.free 0
  have c1 : w1.cell? ⟨B, 1, none⟩ = some (.int .i64 d1) := HX1.out.cell 1
  have f1 := HX1.out.free 1
  have c2 : w1.cell? ⟨B, 2, none⟩ = some (.int .i64 d2) := HX1.out.cell 2
  have f2 := HX1.out.free 2
  have c3 : w1.cell? ⟨B, 3, none⟩ = some (.int .i64 d3) := HX1.out.cell 3
  have f3 := HX1.out.free 3
  have c4 : w1.cell? ⟨B, 4, none⟩ = some (.int .i64 d4) := HX1.out.cell 4
  have f4 := HX1.out.free 4
  have c5 : w1.cell? ⟨B, 5, none⟩ = some (.int .i64 d5) := HX1.out.cell 5
  have f5 := HX1.out.free 5
  have c6 : w1.cell? ⟨B, 6, none⟩ = some (.int .i64 d6) := HX1.out.cell 6
  have f6 := HX1.out.free 6
  have c7 : w1.cell? ⟨B, 7, none⟩ = some (.int .i64 d7) := HX1.out.cell 7
  have f7 := HX1.out.free 7
  have c8 : w1.cell? ⟨B, 8, none⟩ = some (.int .i64 d8) := HX1.out.cell 8
  have f8 := HX1.out.free 8
  go_wp2_with fail
  go_end0
  exact ⟨rfl, HX1.out.put [.int .i64 va] 7, (Only.of HB1.out hlt).trans (Only.put B w1 7 [.int .i64 va])⟩

set_option maxHeartbeats 2000000 in
theorem take_X (d : CallD) (t : ByteArray) (ht : t.size ≤ 8000) (B : Nat) (w : World) (hx : Blk w B 26 (ccall d)) : Calls Tryd.prog 37 #[.pointer (some ⟨B, 0, none⟩), .int .u8 88, .string t] w (Taken B w (takeL d 88 t)) := by
  have HC : Hid (∀ W, Calls Tryd.prog 58 #[.string t] W fun e w' => e = .returned (.int .i64 (numT t)) ∧ w' = W) := fun W => spec_num t (by omega) W
  have HE : Hid (takeL d 88 t = { d with q6 := numT t }) := by simp [Hid, takeL]
  have hf0 := num_field0
  have hlt := hx.lt
  generalize numT t = va at *
  obtain ⟨d0, d1, d2, d3, d4, d5, d6, d7, d8⟩ := d
  have HX : Hid (Blk w B 26 [.int .i64 d0, .int .i64 d1, .int .i64 d2, .int .i64 d3, .int .i64 d4, .int .i64 d5, .int .i64 d6, .int .i64 d7, .int .i64 d8]) := hx
  unfold Taken
  rw [HE.out]
  clear hx HE
  have c0 : w.cell? ⟨B, 0, none⟩ = some (.int .i64 d0) := HX.out.cell 0
  have c1 : w.cell? ⟨B, 1, none⟩ = some (.int .i64 d1) := HX.out.cell 1
  have c2 : w.cell? ⟨B, 2, none⟩ = some (.int .i64 d2) := HX.out.cell 2
  have c3 : w.cell? ⟨B, 3, none⟩ = some (.int .i64 d3) := HX.out.cell 3
  have c4 : w.cell? ⟨B, 4, none⟩ = some (.int .i64 d4) := HX.out.cell 4
  have c5 : w.cell? ⟨B, 5, none⟩ = some (.int .i64 d5) := HX.out.cell 5
  have c6 : w.cell? ⟨B, 6, none⟩ = some (.int .i64 d6) := HX.out.cell 6
  have c7 : w.cell? ⟨B, 7, none⟩ = some (.int .i64 d7) := HX.out.cell 7
  have c8 : w.cell? ⟨B, 8, none⟩ = some (.int .i64 d8) := HX.out.cell 8
  go_enter Tryd.func37, Tryd.ntmps37
  go_wp2_with fail
  refine Calls.mono (HC.out _) ?_
  rintro e w1 ⟨rfl, rfl⟩
  have hb1 : Below w1.heap.size w1 w1 := Below.refl _ _
  have HX1 : Hid (Blk w1 B 26 [.int .i64 d0, .int .i64 d1, .int .i64 d2, .int .i64 d3, .int .i64 d4, .int .i64 d5, .int .i64 d6, .int .i64 d7, .int .i64 d8]) := HX.out
  have HB1 : Hid _ := hb1
  clear hb1 c0 c1 c2 c3 c4 c5 c6 c7 c8
  have c0 : w1.cell? ⟨B, 0, none⟩ = some (.int .i64 d0) := HX1.out.cell 0
  have f0 := HX1.out.free 0
  have c1 : w1.cell? ⟨B, 1, none⟩ = some (.int .i64 d1) := HX1.out.cell 1
  have f1 := HX1.out.free 1
  have c2 : w1.cell? ⟨B, 2, none⟩ = some (.int .i64 d2) := HX1.out.cell 2
  have f2 := HX1.out.free 2
  have c3 : w1.cell? ⟨B, 3, none⟩ = some (.int .i64 d3) := HX1.out.cell 3
  have f3 := HX1.out.free 3
  have c4 : w1.cell? ⟨B, 4, none⟩ = some (.int .i64 d4) := HX1.out.cell 4
  have f4 := HX1.out.free 4
  have c5 : w1.cell? ⟨B, 5, none⟩ = some (.int .i64 d5) := HX1.out.cell 5
  have f5 := HX1.out.free 5
  have c6 : w1.cell? ⟨B, 6, none⟩ = some (.int .i64 d6) := HX1.out.cell 6
  have f6 := HX1.out.free 6
  have c7 : w1.cell? ⟨B, 7, none⟩ = some (.int .i64 d7) := HX1.out.cell 7
  have f7 := HX1.out.free 7
  have c8 : w1.cell? ⟨B, 8, none⟩ = some (.int .i64 d8) := HX1.out.cell 8
  have f8 := HX1.out.free 8
  go_wp2_with fail
  go_end0
  exact ⟨rfl, HX1.out.put [.int .i64 va] 6, (Only.of HB1.out hlt).trans (Only.put B w1 6 [.int .i64 va])⟩

set_option maxHeartbeats 2000000 in
theorem take_Y (d : CallD) (t : ByteArray) (ht : t.size ≤ 8000) (B : Nat) (w : World) (hx : Blk w B 26 (ccall d)) : Calls Tryd.prog 37 #[.pointer (some ⟨B, 0, none⟩), .int .u8 89, .string t] w (Taken B w (takeL d 89 t)) := by
  have HC : Hid (∀ W, Calls Tryd.prog 58 #[.string t] W fun e w' => e = .returned (.int .i64 (numT t)) ∧ w' = W) := fun W => spec_num t (by omega) W
  have HE : Hid (takeL d 89 t = { d with q7 := numT t }) := by simp [Hid, takeL]
  have hf0 := num_field0
  have hlt := hx.lt
  generalize numT t = va at *
  obtain ⟨d0, d1, d2, d3, d4, d5, d6, d7, d8⟩ := d
  have HX : Hid (Blk w B 26 [.int .i64 d0, .int .i64 d1, .int .i64 d2, .int .i64 d3, .int .i64 d4, .int .i64 d5, .int .i64 d6, .int .i64 d7, .int .i64 d8]) := hx
  unfold Taken
  rw [HE.out]
  clear hx HE
  have c0 : w.cell? ⟨B, 0, none⟩ = some (.int .i64 d0) := HX.out.cell 0
  have c1 : w.cell? ⟨B, 1, none⟩ = some (.int .i64 d1) := HX.out.cell 1
  have c2 : w.cell? ⟨B, 2, none⟩ = some (.int .i64 d2) := HX.out.cell 2
  have c3 : w.cell? ⟨B, 3, none⟩ = some (.int .i64 d3) := HX.out.cell 3
  have c4 : w.cell? ⟨B, 4, none⟩ = some (.int .i64 d4) := HX.out.cell 4
  have c5 : w.cell? ⟨B, 5, none⟩ = some (.int .i64 d5) := HX.out.cell 5
  have c6 : w.cell? ⟨B, 6, none⟩ = some (.int .i64 d6) := HX.out.cell 6
  have c7 : w.cell? ⟨B, 7, none⟩ = some (.int .i64 d7) := HX.out.cell 7
  have c8 : w.cell? ⟨B, 8, none⟩ = some (.int .i64 d8) := HX.out.cell 8
  go_enter Tryd.func37, Tryd.ntmps37
  go_wp2_with fail
  refine Calls.mono (HC.out _) ?_
  rintro e w1 ⟨rfl, rfl⟩
  have hb1 : Below w1.heap.size w1 w1 := Below.refl _ _
  have HX1 : Hid (Blk w1 B 26 [.int .i64 d0, .int .i64 d1, .int .i64 d2, .int .i64 d3, .int .i64 d4, .int .i64 d5, .int .i64 d6, .int .i64 d7, .int .i64 d8]) := HX.out
  have HB1 : Hid _ := hb1
  clear hb1 c0 c1 c2 c3 c4 c5 c6 c7 c8
  have c0 : w1.cell? ⟨B, 0, none⟩ = some (.int .i64 d0) := HX1.out.cell 0
  have f0 := HX1.out.free 0
  have c1 : w1.cell? ⟨B, 1, none⟩ = some (.int .i64 d1) := HX1.out.cell 1
  have f1 := HX1.out.free 1
  have c2 : w1.cell? ⟨B, 2, none⟩ = some (.int .i64 d2) := HX1.out.cell 2
  have f2 := HX1.out.free 2
  have c3 : w1.cell? ⟨B, 3, none⟩ = some (.int .i64 d3) := HX1.out.cell 3
  have f3 := HX1.out.free 3
  have c4 : w1.cell? ⟨B, 4, none⟩ = some (.int .i64 d4) := HX1.out.cell 4
  have f4 := HX1.out.free 4
  have c5 : w1.cell? ⟨B, 5, none⟩ = some (.int .i64 d5) := HX1.out.cell 5
  have f5 := HX1.out.free 5
  have c6 : w1.cell? ⟨B, 6, none⟩ = some (.int .i64 d6) := HX1.out.cell 6
  have f6 := HX1.out.free 6
  have c7 : w1.cell? ⟨B, 7, none⟩ = some (.int .i64 d7) := HX1.out.cell 7
  have f7 := HX1.out.free 7
  have c8 : w1.cell? ⟨B, 8, none⟩ = some (.int .i64 d8) := HX1.out.cell 8
  have f8 := HX1.out.free 8
  go_wp2_with fail
  go_end0
  exact ⟨rfl, HX1.out.put [.int .i64 va] 7, (Only.of HB1.out hlt).trans (Only.put B w1 7 [.int .i64 va])⟩

set_option maxHeartbeats 2000000 in
theorem take_Z (d : CallD) (t : ByteArray) (ht : t.size ≤ 8000) (B : Nat) (w : World) (hx : Blk w B 26 (ccall d)) : Calls Tryd.prog 37 #[.pointer (some ⟨B, 0, none⟩), .int .u8 90, .string t] w (Taken B w (takeL d 90 t)) := by
  have HC : Hid (∀ W, Calls Tryd.prog 58 #[.string t] W fun e w' => e = .returned (.int .i64 (numT t)) ∧ w' = W) := fun W => spec_num t (by omega) W
  have HE : Hid (takeL d 90 t = { d with q8 := numT t }) := by simp [Hid, takeL]
  have hf0 := num_field0
  have hlt := hx.lt
  generalize numT t = va at *
  obtain ⟨d0, d1, d2, d3, d4, d5, d6, d7, d8⟩ := d
  have HX : Hid (Blk w B 26 [.int .i64 d0, .int .i64 d1, .int .i64 d2, .int .i64 d3, .int .i64 d4, .int .i64 d5, .int .i64 d6, .int .i64 d7, .int .i64 d8]) := hx
  unfold Taken
  rw [HE.out]
  clear hx HE
  have c0 : w.cell? ⟨B, 0, none⟩ = some (.int .i64 d0) := HX.out.cell 0
  have c1 : w.cell? ⟨B, 1, none⟩ = some (.int .i64 d1) := HX.out.cell 1
  have c2 : w.cell? ⟨B, 2, none⟩ = some (.int .i64 d2) := HX.out.cell 2
  have c3 : w.cell? ⟨B, 3, none⟩ = some (.int .i64 d3) := HX.out.cell 3
  have c4 : w.cell? ⟨B, 4, none⟩ = some (.int .i64 d4) := HX.out.cell 4
  have c5 : w.cell? ⟨B, 5, none⟩ = some (.int .i64 d5) := HX.out.cell 5
  have c6 : w.cell? ⟨B, 6, none⟩ = some (.int .i64 d6) := HX.out.cell 6
  have c7 : w.cell? ⟨B, 7, none⟩ = some (.int .i64 d7) := HX.out.cell 7
  have c8 : w.cell? ⟨B, 8, none⟩ = some (.int .i64 d8) := HX.out.cell 8
  go_enter Tryd.func37, Tryd.ntmps37
  go_wp2_with fail
  refine Calls.mono (HC.out _) ?_
  rintro e w1 ⟨rfl, rfl⟩
  have hb1 : Below w1.heap.size w1 w1 := Below.refl _ _
  have HX1 : Hid (Blk w1 B 26 [.int .i64 d0, .int .i64 d1, .int .i64 d2, .int .i64 d3, .int .i64 d4, .int .i64 d5, .int .i64 d6, .int .i64 d7, .int .i64 d8]) := HX.out
  have HB1 : Hid _ := hb1
  clear hb1 c0 c1 c2 c3 c4 c5 c6 c7 c8
  have c0 : w1.cell? ⟨B, 0, none⟩ = some (.int .i64 d0) := HX1.out.cell 0
  have f0 := HX1.out.free 0
  have c1 : w1.cell? ⟨B, 1, none⟩ = some (.int .i64 d1) := HX1.out.cell 1
  have f1 := HX1.out.free 1
  have c2 : w1.cell? ⟨B, 2, none⟩ = some (.int .i64 d2) := HX1.out.cell 2
  have f2 := HX1.out.free 2
  have c3 : w1.cell? ⟨B, 3, none⟩ = some (.int .i64 d3) := HX1.out.cell 3
  have f3 := HX1.out.free 3
  have c4 : w1.cell? ⟨B, 4, none⟩ = some (.int .i64 d4) := HX1.out.cell 4
  have f4 := HX1.out.free 4
  have c5 : w1.cell? ⟨B, 5, none⟩ = some (.int .i64 d5) := HX1.out.cell 5
  have f5 := HX1.out.free 5
  have c6 : w1.cell? ⟨B, 6, none⟩ = some (.int .i64 d6) := HX1.out.cell 6
  have f6 := HX1.out.free 6
  have c7 : w1.cell? ⟨B, 7, none⟩ = some (.int .i64 d7) := HX1.out.cell 7
  have f7 := HX1.out.free 7
  have c8 : w1.cell? ⟨B, 8, none⟩ = some (.int .i64 d8) := HX1.out.cell 8
  have f8 := HX1.out.free 8
  go_wp2_with fail
  go_end0
  exact ⟨rfl, HX1.out.put [.int .i64 va] 8, (Only.of HB1.out hlt).trans (Only.put B w1 8 [.int .i64 va])⟩

/-- the kind found among the first n -/
def kindTo (t : ByteArray) (d : Int) : Nat → Int
  | 0 => d
  | j + 1 => if kindB ((j : Int) + 1) = t then (j : Int) + 1 else kindTo t d j
theorem kind_3 (t : ByteArray) (d : Int) : kindTo t d 3 = kindR t d := rfl
set_option maxHeartbeats 4000000 in
theorem take_K (d : CallD) (t : ByteArray) (B : Nat) (w : World) (hx : Blk w B 26 (ccall d)) : Calls Tryd.prog 37 #[.pointer (some ⟨B, 0, none⟩), .int .u8 75, .string t] w (Taken B w (takeL d 75 t)) := by
  have HC : Hid (∀ l W, Calls Tryd.prog 56 #[.int .i64 l] W fun e w' => e = .returned (.string (kindB l)) ∧ w' = W) := fun l W => spec_kind l W
  have HE : Hid (takeL d 75 t = { d with q6 := kindR t d.q6 }) := by simp [Hid, takeL]
  have hlt := hx.lt
  obtain ⟨d0, d1, d2, d3, d4, d5, d6, d7, d8⟩ := d
  have H3 : Hid (kindTo t d6 3 = kindR t d6) := rfl
  have HX : Hid (Blk w B 26 [.int .i64 d0, .int .i64 d1, .int .i64 d2, .int .i64 d3, .int .i64 d4, .int .i64 d5, .int .i64 (kindTo t d6 0), .int .i64 d7, .int .i64 d8]) := hx
  unfold Taken
  rw [HE.out]
  clear hx HE
  go_enter Tryd.func37, Tryd.ntmps37
  go_wp2_with fail
  go_loopw [6] (fun ti wr => ∃ j : Nat, j ≤ 3 ∧ ti = .int .i64 ((j : Int) + 1) ∧ Hid (Only B w wr) ∧ Hid (Blk wr B 26 [.int .i64 d0, .int .i64 d1, .int .i64 d2, .int .i64 d3, .int .i64 d4, .int .i64 d5, .int .i64 (kindTo t d6 j), .int .i64 d7, .int .i64 d8])) (fun ti _ => 4 - (intOf ti).toNat)
  case atStart => exact ⟨0, by omega, rfl, Only.refl B w, HX.out⟩
  case round =>
    obtain ⟨j, hj, rfl, HW, HY⟩ := hrel
    by_cases hlt3 : j < 3
    · have c6 : wr.cell? ⟨B, 6, none⟩ = some (.int .i64 (kindTo t d6 j)) := HY.out.cell 6
      have f6 := HY.out.free 6
      have HS : Hid (kindTo t d6 (j + 1) = if kindB ((j : Int) + 1) = t then (j : Int) + 1 else kindTo t d6 j) := rfl
      by_cases hk : kindB ((j : Int) + 1) = t
      · have he := str_eq hk
        have HS2 : Hid (kindTo t d6 (j + 1) = (j : Int) + 1) := by rw [Hid, HS.out, if_pos hk]
        have HP : Hid (Blk (putW wr B 6 [.int .i64 ((j : Int) + 1)]) B 26 [.int .i64 d0, .int .i64 d1, .int .i64 d2, .int .i64 d3, .int .i64 d4, .int .i64 d5, .int .i64 (kindTo t d6 (j + 1)), .int .i64 d7, .int .i64 d8]) := by rw [HS2.out]; exact HY.out.put [.int .i64 ((j : Int) + 1)] 6
        have HW2 : Hid (Only B w (putW wr B 6 [.int .i64 ((j : Int) + 1)])) := HW.out.trans (Only.put B wr 6 _)
        have HCJ := HC.out ((j : Int) + 1)
        generalize kindB ((j : Int) + 1) = nm at *
        generalize kindTo t d6 j = kj at *
        clear HS HS2 hk
        go_wp2_with (go_at_call 56; refine Calls.mono (HCJ _) ?_; rintro e w1 ⟨rfl, rfl⟩)
        go_roundw
        case rel => exact ⟨j + 1, by omega, by go_num, HW2.out, HP.out⟩
        case measure => simp [intOf]; omega
      · have he := str_ne hk
        have HS2 : Hid (kindTo t d6 (j + 1) = kindTo t d6 j) := by rw [Hid, HS.out, if_neg hk]
        have HP : Hid (Blk wr B 26 [.int .i64 d0, .int .i64 d1, .int .i64 d2, .int .i64 d3, .int .i64 d4, .int .i64 d5, .int .i64 (kindTo t d6 (j + 1)), .int .i64 d7, .int .i64 d8]) := by rw [HS2.out]; exact HY.out
        have HCJ := HC.out ((j : Int) + 1)
        generalize kindB ((j : Int) + 1) = nm at *
        generalize kindTo t d6 j = kj at *
        clear HS HS2 hk
        go_wp2_with (go_at_call 56; refine Calls.mono (HCJ _) ?_; rintro e w1 ⟨rfl, rfl⟩)
        go_roundw
        case rel => exact ⟨j + 1, by omega, by go_num, HW.out, HP.out⟩
        case measure => simp [intOf]; omega
    · obtain rfl : j = 3 := by omega
      rw [H3.out] at HY
      go_wp2_with fail
      go_end0
      exact ⟨rfl, HY.out, HW.out⟩

set_option maxHeartbeats 1000000 in
/-- another letter: nothing is read -/
theorem take_no (d : CallD) (a : Int) (t : ByteArray) (B : Nat) (w : World) (hx : Blk w B 26 (ccall d)) (h : ¬ (a = 65 ∨ a = 66 ∨ a = 75 ∨ a = 76 ∨ a = 88 ∨ a = 89 ∨ a = 90)) : Calls Tryd.prog 37 #[.pointer (some ⟨B, 0, none⟩), .int .u8 a, .string t] w (Taken B w (takeL d a t)) := by
  have HE : takeL d a t = d := by
    unfold takeL
    repeat (rw [if_neg (by omega)])
  rw [HE]
  have g65 : (a == 65) = false := by simp; omega
  have g66 : (a == 66) = false := by simp; omega
  have g75 : (a == 75) = false := by simp; omega
  have g76 : (a == 76) = false := by simp; omega
  have g88 : (a == 88) = false := by simp; omega
  have g89 : (a == 89) = false := by simp; omega
  have g90 : (a == 90) = false := by simp; omega
  have HX : Hid _ := hx
  clear h HE hx
  go_enter Tryd.func37, Tryd.ntmps37
  go_wp2
  go_end0
  exact ⟨rfl, HX.out, Only.refl B w⟩
theorem spec_take (d : CallD) (a : Int) (t : ByteArray) (ht : t.size ≤ 8000) (B : Nat) (w : World) (hx : Blk w B 26 (ccall d)) : Calls Tryd.prog 37 #[.pointer (some ⟨B, 0, none⟩), .int .u8 a, .string t] w (Taken B w (takeL d a t)) := by
  by_cases e1 : a = 65; · subst e1; exact take_A d t ht B w hx
  by_cases e2 : a = 66; · subst e2; exact take_B d t ht B w hx
  by_cases e3 : a = 75; · subst e3; exact take_K d t B w hx
  by_cases e4 : a = 76; · subst e4; exact take_L d t ht B w hx
  by_cases e5 : a = 88; · subst e5; exact take_X d t ht B w hx
  by_cases e6 : a = 89; · subst e6; exact take_Y d t ht B w hx
  by_cases e7 : a = 90; · subst e7; exact take_Z d t ht B w hx
  exact take_no d a t B w hx (by omega)

end Go.Proofs.YtacfhchmoiphfaaDoor.scr
