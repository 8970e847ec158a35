/-
  The walks of Unseal, the specification's and the program's.
-/
import Derived.Test.YtjiihkdnpblilaaSeal
import Derived.Deep.RegionWith
namespace Go.Proofs.Ytjiihkdnpblilaa.opening
open Go.RowKit Go.Deep
open Go.Proofs.Ytjiihkdnpblilaa

theorem bcell {W w1 : World} (hb : Below W.heap.size W w1) : (∀ b o, b < W.heap.size → w1.cell? ⟨b, o, none⟩ = W.cell? ⟨b, o, none⟩) ∧ (∀ b o, b < W.heap.size → w1.frozen? ⟨b, o, none⟩ = W.frozen? ⟨b, o, none⟩) :=
  ⟨fun b o h => hb.cell (p := ⟨b, o, none⟩) h, fun b o h => hb.frozen (p := ⟨b, o, none⟩) h⟩

def inner (s : ByteArray) : ByteArray := s.extract 0 (s.size - 4)
def tail (s : ByteArray) : ByteArray := s.extract (s.size - 4) s.size

theorem cut_tail (s : ByteArray) (h1 : 4 ≤ s.size) (wx : World) : (Instr.slice 9 (.string s) (some (.int .i64 ((s.size : Int) - 4))) none none).run Try.prog wx = .ok (.string (tail s)) wx := by
  rw [run_slice_string_from_if wx 9 s .i64 _ Try.underlying9, if_pos ⟨by omega, by omega⟩, show ((s.size : Int) - 4).toNat = s.size - 4 by omega]
  rfl
theorem cut_inner (s : ByteArray) (h1 : 4 ≤ s.size) (wx : World) : (Instr.slice 9 (.string s) none (some (.int .i64 ((s.size : Int) - 4))) none).run Try.prog wx = .ok (.string (inner s)) wx := by
  rw [run_slice_string_to_if wx 9 s .i64 _ Try.underlying9, if_pos ⟨by omega, by omega⟩, show ((s.size : Int) - 4).toNat = s.size - 4 by omega]
  rfl

theorem inner_size (s : ByteArray) : (inner s).size = s.size - 4 := by
  simp [inner]

theorem impl_size (s : ByteArray) (w : World) (hs : s.size ≤ maxLen) (h : 8000 < s.size) :
    Calls Try.prog 8 #[.string s] w fun e w' => e = .returned (.agg #[.string ⟨#[]⟩, .int .i64 0, .int .i64 2]) ∧ Below w.heap.size w w' := by
  unfold maxLen at hs
  go_enter Try.func8, Try.ntmps8
  go_wp2
  exact bodyPost_ret (v := .agg #[.string ⟨#[]⟩, .int .i64 0, .int .i64 2]) (by simp [results, Try.results8, go_sem]) rfl ⟨rfl, (Below.refl _ _).alloc (Nat.le_refl _) _⟩

theorem impl_short (s : ByteArray) (w : World) (h : s.size < 4) :
    Calls Try.prog 8 #[.string s] w fun e w' => e = .returned (.agg #[.string ⟨#[]⟩, .int .i64 0, .int .i64 4]) ∧ Below w.heap.size w w' := by
  go_enter Try.func8, Try.ntmps8
  go_wp2
  exact bodyPost_ret (v := .agg #[.string ⟨#[]⟩, .int .i64 0, .int .i64 4]) (by simp [results, Try.results8, go_sem]) rfl ⟨rfl, (Below.refl _ _).alloc (Nat.le_refl _) _⟩

theorem impl_bad (s : ByteArray) (w : World) (h1 : 4 ≤ s.size) (h2 : s.size ≤ 8000) (he : ((sealing.sealN (inner s)).toList == s.toList) = false) :
    Calls Try.prog 8 #[.string s] w fun e w' => e = .returned (.agg #[.string ⟨#[]⟩, .int .i64 0, .int .i64 5]) ∧ Below w.heap.size w w' := by
  have hci := cut_inner s h1
  have hi : (inner s).size ≤ maxLen := by rw [inner_size s]; unfold maxLen; omega
  go_enter Try.func8, Try.ntmps8
  go_wp2_with fail
  refine (sealing.impl_seal _ _ hi).mono ?_
  rintro e w1 ⟨rfl, hb⟩
  obtain ⟨hc, hf⟩ := bcell hb
  go_wp2
  exact bodyPost_ret (v := .agg #[.string ⟨#[]⟩, .int .i64 0, .int .i64 5]) (by simp [results, Try.results8, go_sem, hc]) rfl
    ⟨rfl, (((((Below.refl w.heap.size w).alloc (Nat.le_refl _) _).trans (hb.mono (by simp))).setCell (Nat.le_refl _) _).setCell (Nat.le_refl _) _).setCell (Nat.le_refl _) _⟩

theorem impl_good (s : ByteArray) (w : World) (h1 : 4 ≤ s.size) (h2 : s.size ≤ 8000) (he : ((sealing.sealN (inner s)).toList == s.toList) = true) :
    Calls Try.prog 8 #[.string s] w fun e w' => e = .returned (.agg #[.string (inner s), .int .i64 0, .int .i64 0]) ∧ Below w.heap.size w w' := by
  have hci := cut_inner s h1
  have hi : (inner s).size ≤ maxLen := by rw [inner_size s]; unfold maxLen; omega
  have hi2 : (inner s).size ≤ 1000000000 := by rw [inner_size s]; omega
  go_enter Try.func8, Try.ntmps8
  go_wp2_with fail
  refine (sealing.impl_seal _ _ hi).mono ?_
  rintro e w1 ⟨rfl, hb⟩
  obtain ⟨hc, hf⟩ := bcell hb
  go_wp2_with fail
  refine (join.fresh_any _ _ hi2).mono ?_
  rintro e w2 ⟨rfl, hb2⟩
  have hb3 := hb.trans (hb2.mono hb.size)
  clear hc hf hb2
  obtain ⟨hc, hf⟩ := bcell hb3
  go_wp2
  exact bodyPost_ret (v := .agg #[.string (inner s), .int .i64 0, .int .i64 0]) (by simp [results, Try.results8, go_sem, hc]) rfl
    ⟨rfl, (((((Below.refl w.heap.size w).alloc (Nat.le_refl _) _).trans (hb3.mono (by simp))).setCell (Nat.le_refl _) _).setCell (Nat.le_refl _) _).setCell (Nat.le_refl _) _⟩
end Go.Proofs.Ytjiihkdnpblilaa.opening
