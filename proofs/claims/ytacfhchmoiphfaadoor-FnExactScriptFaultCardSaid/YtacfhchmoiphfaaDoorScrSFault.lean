/-
  ScriptFault on both sides; two equal answers compare as equal. Condition of the program's side: its tables read as its text lays them.
-/
import Derived.Test.YtacfhchmoiphfaaDoorScrRScript
namespace Go.Proofs.YtacfhchmoiphfaaDoor.scr
open Go.RowKit Go.Deep Go.Sort
open Go.Proofs.YtacfhchmoiphfaaDoor
open Go.Proofs.YtacfhchmoiphfaaDoor.deep (Blk)
set_option linter.unusedVariables false
set_option maxRecDepth 100000
def FaultP (s : ByteArray) (w : World) (e : Ending) (w' : World) : Prop := ∃ line code : Int, e = .returned (.agg #[.string ⟨#[]⟩, .int .i64 line, .int .i64 code]) ∧ Told s line code ∧ Below w.heap.size w w'
set_option maxHeartbeats 4000000 in
theorem impl_sfault (s : ByteArray) (w : World) (hS : Say w) : Calls Tryd.prog 18 #[.string s] w (FaultP s w) := by
  unfold FaultP
  have HRD : Hid (∀ o, Calls Tryd.prog 45 #[.string s] (w.alloc o) (ReadI s (w.alloc o))) := fun o => impl_rscript s _ (hS.alloc o)
  unfold ReadI at HRD
  generalize Told s = P at *
  clear hS
  go_enter Tryd.func18, Tryd.ntmps18
  go_wp2_with fail
  refine Calls.mono (HRD.out _) ?_
  rintro e w1 ⟨sd, va, vn, vc, line, code, rfl, hp, hb⟩
  have HP : Hid (P line code) := hp
  have HB : Hid (Below w.heap.size w w1) := deep.below_tr (deep.below_one _ _) hb
  have HZ : Hid (Blk w1 w.heap.size 45 [.string ⟨#[]⟩, .int .i64 0, .int .i64 0]) := (deep.blk_new w [.string ⟨#[]⟩, .int .i64 0, .int .i64 0] _).later hb
  have z0 : w1.cell? ⟨w.heap.size, 0, none⟩ = some (.string ⟨#[]⟩) := HZ.out.cell 0
  have z1 : w1.cell? ⟨w.heap.size, 1, none⟩ = some (.int .i64 0) := HZ.out.cell 1
  have z2 : w1.cell? ⟨w.heap.size, 2, none⟩ = some (.int .i64 0) := HZ.out.cell 2
  have f0 := HZ.out.free 0
  have f1 := HZ.out.free 1
  have f2 := HZ.out.free 2
  have hlt := HZ.out.lt
  have hne : ¬ w.heap.size = w1.heap.size := by omega
  have hne2 : ¬ w1.heap.size = w.heap.size := by omega
  clear hp hb HRD
  have HF : Hid (Blk (((((w1.setCell ⟨w.heap.size, 0, none⟩ (.string ⟨#[]⟩)).setCell ⟨w.heap.size, 1, none⟩ (.int .i64 line)).setCell ⟨w.heap.size, 2, none⟩ (.int .i64 code)).alloc (.cells #[.int .i64 sd, .slice va vn vc] 80)).alloc (.cells #[.string ⟨#[]⟩, .int .i64 line, .int .i64 code] 45)) w.heap.size 45 [.string ⟨#[]⟩, .int .i64 line, .int .i64 code]) := (HZ.out.put [.string ⟨#[]⟩, .int .i64 line, .int .i64 code] 0).later (((Below.refl _ _).alloc (Nat.le_refl _) _).alloc (by simp) _)
  have HBF : Hid (Below w.heap.size w (((((w1.setCell ⟨w.heap.size, 0, none⟩ (.string ⟨#[]⟩)).setCell ⟨w.heap.size, 1, none⟩ (.int .i64 line)).setCell ⟨w.heap.size, 2, none⟩ (.int .i64 code)).alloc (.cells #[.int .i64 sd, .slice va vn vc] 80)).alloc (.cells #[.string ⟨#[]⟩, .int .i64 line, .int .i64 code] 45))) := deep.below_tr (deep.putW_below [.string ⟨#[]⟩, .int .i64 line, .int .i64 code] HB.out (by omega) (b := 0)) (((Below.refl _ _).alloc (Nat.le_refl _) _).alloc (by simp) _)
  go_wp2_with fail
  generalize (((((w1.setCell ⟨w.heap.size, 0, none⟩ (.string ⟨#[]⟩)).setCell ⟨w.heap.size, 1, none⟩ (.int .i64 line)).setCell ⟨w.heap.size, 2, none⟩ (.int .i64 code)).alloc (.cells #[.int .i64 sd, .slice va vn vc] 80)).alloc (.cells #[.string ⟨#[]⟩, .int .i64 line, .int .i64 code] 45)) = WF at *
  have u0 : WF.cell? ⟨w.heap.size, 0, none⟩ = some (.string ⟨#[]⟩) := HF.out.cell 0
  have u1 : WF.cell? ⟨w.heap.size, 1, none⟩ = some (.int .i64 line) := HF.out.cell 1
  have u2 : WF.cell? ⟨w.heap.size, 2, none⟩ = some (.int .i64 code) := HF.out.cell 2
  exact bodyPost_ret (v := .agg #[.string ⟨#[]⟩, .int .i64 line, .int .i64 code]) (by simp [results, Tryd.results18, go_sem, u0, u1, u2]) rfl ⟨_, _, rfl, HP.out, HBF.out⟩
set_option maxHeartbeats 4000000 in
theorem spec_sfault (s : ByteArray) (w : World) (hs : s.size ≤ 9223372036854775807) : Calls Tryd.prog 17 #[.string s] w (FaultP s w) := by
  unfold FaultP
  have HRD : Hid (∀ o, Calls Tryd.prog 44 #[.string s] (w.alloc o) (ReadP s (w.alloc o))) := fun o => spec_lread s hs _
  unfold ReadP at HRD
  generalize Told s = P at *
  clear hs
  go_enter Tryd.func17, Tryd.ntmps17
  go_wp2_with fail
  refine Calls.mono (HRD.out _) ?_
  rintro e w1 ⟨sd, v, line, code, rfl, hp, hb⟩
  have HP : Hid (P line code) := hp
  have HB : Hid (Below w.heap.size w w1) := deep.below_tr (deep.below_one _ _) hb
  have HZ : Hid (Blk w1 w.heap.size 45 [.string ⟨#[]⟩, .int .i64 0, .int .i64 0]) := (deep.blk_new w [.string ⟨#[]⟩, .int .i64 0, .int .i64 0] _).later hb
  have z0 : w1.cell? ⟨w.heap.size, 0, none⟩ = some (.string ⟨#[]⟩) := HZ.out.cell 0
  have z1 : w1.cell? ⟨w.heap.size, 1, none⟩ = some (.int .i64 0) := HZ.out.cell 1
  have z2 : w1.cell? ⟨w.heap.size, 2, none⟩ = some (.int .i64 0) := HZ.out.cell 2
  have f0 := HZ.out.free 0
  have f1 := HZ.out.free 1
  have f2 := HZ.out.free 2
  have hlt := HZ.out.lt
  have hne : ¬ w.heap.size = w1.heap.size := by omega
  have hne2 : ¬ w1.heap.size = w.heap.size := by omega
  clear hp hb HRD
  have HF : Hid (Blk ((((w1.setCell ⟨w.heap.size, 0, none⟩ (.string ⟨#[]⟩)).setCell ⟨w.heap.size, 1, none⟩ (.int .i64 line)).setCell ⟨w.heap.size, 2, none⟩ (.int .i64 code)).alloc (.cells #[.string ⟨#[]⟩, .int .i64 line, .int .i64 code] 45)) w.heap.size 45 [.string ⟨#[]⟩, .int .i64 line, .int .i64 code]) := (HZ.out.put [.string ⟨#[]⟩, .int .i64 line, .int .i64 code] 0).later (deep.below_one _ _)
  have HBF : Hid (Below w.heap.size w ((((w1.setCell ⟨w.heap.size, 0, none⟩ (.string ⟨#[]⟩)).setCell ⟨w.heap.size, 1, none⟩ (.int .i64 line)).setCell ⟨w.heap.size, 2, none⟩ (.int .i64 code)).alloc (.cells #[.string ⟨#[]⟩, .int .i64 line, .int .i64 code] 45))) := deep.below_tr (deep.putW_below [.string ⟨#[]⟩, .int .i64 line, .int .i64 code] HB.out (by omega) (b := 0)) (deep.below_one _ _)
  go_wp2_with fail
  generalize ((((w1.setCell ⟨w.heap.size, 0, none⟩ (.string ⟨#[]⟩)).setCell ⟨w.heap.size, 1, none⟩ (.int .i64 line)).setCell ⟨w.heap.size, 2, none⟩ (.int .i64 code)).alloc (.cells #[.string ⟨#[]⟩, .int .i64 line, .int .i64 code] 45)) = WF at *
  have u0 : WF.cell? ⟨w.heap.size, 0, none⟩ = some (.string ⟨#[]⟩) := HF.out.cell 0
  have u1 : WF.cell? ⟨w.heap.size, 1, none⟩ = some (.int .i64 line) := HF.out.cell 1
  have u2 : WF.cell? ⟨w.heap.size, 2, none⟩ = some (.int .i64 code) := HF.out.cell 2
  exact bodyPost_ret (v := .agg #[.string ⟨#[]⟩, .int .i64 line, .int .i64 code]) (by simp [results, Tryd.results17, go_sem, u0, u1, u2]) rfl ⟨_, _, rfl, HP.out, HBF.out⟩
set_option maxHeartbeats 4000000 in
theorem eq_sout (line code : Int) (w : World) : Calls Tryd.prog 19 #[.agg #[.string ⟨#[]⟩, .int .i64 line, .int .i64 code], .agg #[.string ⟨#[]⟩, .int .i64 line, .int .i64 code]] w fun e w' => e = .returned (.bool true) ∧ Below w.heap.size w w' := by
  have HB : Hid (∀ a b, Below w.heap.size w ((w.alloc a).alloc b)) := fun a b => deep.below2 w _ _
  go_enter Tryd.func19, Tryd.ntmps19
  go_wp2_with fail
  go_ret
  exact ⟨rfl, HB.out _ _⟩
end Go.Proofs.YtacfhchmoiphfaaDoor.scr
