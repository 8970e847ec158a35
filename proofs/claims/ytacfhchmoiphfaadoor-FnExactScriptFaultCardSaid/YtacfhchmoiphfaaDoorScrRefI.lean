/-
  The program reads a reference: readRef. Conditions: at most 8000 bytes; the library's number MaxLen is a number.
-/
import Derived.Test.YtacfhchmoiphfaaDoorScrDigI
import Derived.Test.YtacfhchmoiphfaaDoorScrSay
import Derived.Test.YtacfhchmoiphfaaDoorShelf
namespace Go.Proofs.YtacfhchmoiphfaaDoor.scr
open Go.RowKit Go.Deep Go.Sort
open Go.Proofs.YtacfhchmoiphfaaDoor
open Go.Proofs.YtacfhchmoiphfaaDoor.deep (Blk)
open Go.Proofs.YtacfhchmoiphfaaDoor.lread (outL)
set_option linter.unusedVariables false
set_option maxRecDepth 100000

theorem cutN_size (s : ByteArray) : (cutN s).size ≤ s.size ∧ (cutM s).size ≤ s.size := by
  have h1 : (cutN s).size = (Lib.cut s.data.toList [46]).1.length := by rw [← bl_size]; unfold cutN; rw [bl_of]
  have h2 : (cutM s).size = (Lib.cut s.data.toList [46]).2.1.length := by rw [← bl_size]; unfold cutM; rw [bl_of]
  have h3 : s.data.toList.length = s.size := bl_size s
  rw [h1, h2]
  unfold Lib.cut
  split
  · simp only [List.length_take, List.length_drop]; omega
  · simp only [List.length_nil]; omega
/-- what is told of a reference -/
def RefSays (s : ByteArray) (a b : Int) (k : Bool) : Prop := (k = true ∧ 0 ≤ (refR s).1 ∧ 0 ≤ (refR s).2 ∧ a = (refR s).1 ∧ b = (refR s).2) ∨ (k = false ∧ ¬ (0 ≤ (refR s).1 ∧ 0 ≤ (refR s).2))
def RefPost (s : ByteArray) (w : World) (e : Ending) (w' : World) : Prop := ∃ a b k, e = .returned (.tuple #[.agg #[.int .i64 a, .int .i64 b], .bool k]) ∧ RefSays s a b k ∧ Below w.heap.size w w'
theorem ref_says_yes {s : ByteArray} {m : Int} (h : outL (cutN s) = (m, 0)) (hn : 0 ≤ numT (cutM s)) : RefSays s m (numT (cutM s)) true := by
  have hr := ref_read s
  have hg : (outL (cutN s)).2 = 0 ∧ 0 ≤ numT (cutM s) := ⟨by rw [h], hn⟩
  have h1 := hr.1.1 hg
  have h2 := hr.2 hg
  rw [h] at h2
  exact .inl ⟨rfl, h1.1, h1.2, by rw [h2], by rw [h2]⟩
theorem ref_says_no {s : ByteArray} {a b : Int} (h : ¬ ((outL (cutN s)).2 = 0 ∧ 0 ≤ numT (cutM s))) : RefSays s a b false := .inr ⟨rfl, fun k => h ((ref_read s).1.2 k)⟩

set_option maxHeartbeats 4000000 in
theorem impl_rref (s : ByteArray) (hs : s.size ≤ 8000) (w : World) (hS : Say w) : Calls Tryd.prog 68 #[.string s] w (RefPost s w) := by
  have HC : Hid (∀ W, Say W → Calls Tryd.prog 78 #[.string s, .string ⟨#[46]⟩] W fun e w' => (∃ k, e = .returned (.tuple #[.string (cutN s), .string (cutM s), .bool k])) ∧ ∃ n, w' = W.drewN n) := fun W h => by
    obtain ⟨m, hm⟩ := h.len
    exact (Tryd.strings_Cut s ⟨#[46]⟩ m W (by omega) hm).mono fun e w' q => ⟨⟨_, q.1⟩, q.2⟩
  have hz := cutN_size s
  have HL : Hid (∀ W, Calls Tryd.prog 51 #[.string (cutN s)] W fun e w' => (∃ m b, e = .returned (.tuple #[.int .u8 m, .bool b]) ∧ ((b = true ∧ 0 ≤ m ∧ m ≤ 15 ∧ outL (cutN s) = (m, 0)) ∨ (b = false ∧ outL (cutN s) = (0, 3)))) ∧ w' = W) := fun W => (lread.read_label (cutN s) W (by omega)).mono fun e w' q => by
    obtain ⟨⟨m, b, he, ht⟩, hw⟩ := q
    exact ⟨⟨m, b, he, lread.out_tells (by omega) ht⟩, hw⟩
  have HD : Hid (∀ W, Calls Tryd.prog 70 #[.string (cutM s)] W fun e w' => e = .returned (digV (numT (cutM s))) ∧ w' = W) := fun W => impl_dig (cutM s) (by omega) W
  have HY : Hid (∀ m, outL (cutN s) = (m, 0) → 0 ≤ numT (cutM s) → RefSays s m (numT (cutM s)) true) := fun m h k => ref_says_yes h k
  have HN : Hid (∀ a b, ¬ ((outL (cutN s)).2 = 0 ∧ 0 ≤ numT (cutM s)) → RefSays s a b false) := fun a b h => ref_says_no h
  have HB0 : Hid (Below w.heap.size w (w.alloc (.cells #[.int .i64 0, .int .i64 0] 24))) := below_one _ _
  have HS : Hid (Say (w.alloc (.cells #[.int .i64 0, .int .i64 0] 24))) := hS.alloc _
  unfold RefPost
  generalize cutN s = x1 at *
  generalize cutM s = x2 at *
  generalize numT x2 = R at *
  obtain ⟨P, hP⟩ : ∃ P, P = RefSays s := ⟨_, rfl⟩
  rw [← hP] at HY HN ⊢
  clear hP hz hS
  go_enter Tryd.func68, Tryd.ntmps68
  go_wp2_with fail
  refine Calls.mono (HC.out _ HS.out) ?_
  rintro e w1 ⟨⟨k, rfl⟩, n, rfl⟩
  have HB1 : Hid (Below w.heap.size w ((w.alloc (.cells #[.int .i64 0, .int .i64 0] 24)).drewN n)) := ⟨HB0.out.os, HB0.out.tape, HB0.out.output, HB0.out.size, HB0.out.block⟩
  have HZ1 : Hid (Blk ((w.alloc (.cells #[.int .i64 0, .int .i64 0] 24)).drewN n) w.heap.size 24 [.int .i64 0, .int .i64 0]) := (deep.blk_new w _ _ : Blk (w.alloc (.cells #[.int .i64 0, .int .i64 0] 24)) w.heap.size 24 [.int .i64 0, .int .i64 0])
  generalize (w.alloc (.cells #[.int .i64 0, .int .i64 0] 24)).drewN n = w1 at *
  have hlt := HZ1.out.lt
  have z0 : w1.cell? ⟨w.heap.size, 0, none⟩ = some (.int .i64 0) := HZ1.out.cell 0
  have z1 : w1.cell? ⟨w.heap.size, 1, none⟩ = some (.int .i64 0) := HZ1.out.cell 1
  have f0 := HZ1.out.free 0
  have f1 := HZ1.out.free 1
  go_wp2_with fail
  refine Calls.mono (HL.out _) ?_
  rintro e w2 ⟨⟨m, b, rfl, hm⟩, rfl⟩
  by_cases hR : 0 ≤ R
  · have HD2 : Hid (∀ W, Calls Tryd.prog 70 #[.string x2] W fun e w' => e = .returned (.tuple #[.int .i64 R, .bool true]) ∧ w' = W) := fun W => by
      have := HD.out W
      rw [digV, if_pos hR] at this
      exact this
    clear HD
    rcases hm with ⟨rfl, hm0, hm15, hmo⟩ | ⟨rfl, hmo⟩
    · have HP : Hid (P m R true) := HY.out m hmo hR
      clear HY HN hmo
      go_wp2_with fail
      refine Calls.mono (HD2.out _) ?_
      rintro e w3 ⟨rfl, rfl⟩
      go_wp2_with fail
      refine bodyPost_ret (v := .tuple #[.agg #[.int .i64 m, .int .i64 R], .bool true]) (by simp [results, Tryd.results68, go_sem, z0, z1]) rfl ⟨_, _, _, rfl, HP.out, ?_⟩
      exact deep.putW_below [.int .i64 m, .int .i64 R] HB1.out (by omega) (b := 0)
    · have HP : Hid (∀ a b, P a b false) := fun a b => HN.out a b (by rw [hmo]; simp)
      clear HY HN hmo
      go_wp2_with fail
      refine Calls.mono (HD2.out _) ?_
      rintro e w3 ⟨rfl, rfl⟩
      go_wp2_with fail
      refine bodyPost_ret (v := .tuple #[.agg #[.int .i64 (wrap64 m), .int .i64 R], .bool false]) (by simp [results, Tryd.results68, go_sem, z0, z1]) rfl ⟨_, _, _, rfl, HP.out _ _, ?_⟩
      exact deep.putW_below [.int .i64 _, .int .i64 _] HB1.out (by omega) (b := 0)
  · have HD2 : Hid (∀ W, Calls Tryd.prog 70 #[.string x2] W fun e w' => e = .returned (.tuple #[.int .i64 0, .bool false]) ∧ w' = W) := fun W => by
      have := HD.out W
      rw [digV, if_neg hR] at this
      exact this
    have HP : Hid (∀ a b, P a b false) := fun a b => HN.out a b (fun h => hR h.2)
    clear HD HY HN hR
    rcases hm with ⟨rfl, hm0, hm15, hmo⟩ | ⟨rfl, hmo⟩
    · clear hmo
      go_wp2_with fail
      refine Calls.mono (HD2.out _) ?_
      rintro e w3 ⟨rfl, rfl⟩
      go_wp2_with fail
      refine bodyPost_ret (v := .tuple #[.agg #[.int .i64 m, .int .i64 0], .bool false]) (by simp [results, Tryd.results68, go_sem, z0, z1]) rfl ⟨_, _, _, rfl, HP.out _ _, ?_⟩
      exact deep.putW_below [.int .i64 _, .int .i64 _] HB1.out (by omega) (b := 0)
    · clear hmo
      go_wp2_with fail
      refine Calls.mono (HD2.out _) ?_
      rintro e w3 ⟨rfl, rfl⟩
      go_wp2_with fail
      refine bodyPost_ret (v := .tuple #[.agg #[.int .i64 (wrap64 m), .int .i64 0], .bool false]) (by simp [results, Tryd.results68, go_sem, z0, z1]) rfl ⟨_, _, _, rfl, HP.out _ _, ?_⟩
      exact deep.putW_below [.int .i64 _, .int .i64 _] HB1.out (by omega) (b := 0)
end Go.Proofs.YtacfhchmoiphfaaDoor.scr
