/-
  The walks of Seal, the specification's and the program's.
-/
import Derived.Test.YtjiihkdnpblilaaFour
namespace Go.Proofs.Ytjiihkdnpblilaa.sealing
open Go.RowKit Go.Deep
open Go.Proofs.Ytjiihkdnpblilaa

/-- the seal of a text -/
def sealN (s : ByteArray) : ByteArray := if 7996 < s.size then ⟨#[]⟩ else s ++ four.bytes4 (reg.crcN 0 s.data.toList)

theorem spec_crc_at (s : ByteArray) (w : World) (hs : s.size ≤ 8000) :
    Calls Try.prog 20 #[.int .i64 0, .string s] w fun e w' => e = .returned (.int .i64 (reg.crcN 0 s.data.toList : Nat)) ∧ w' = w :=
  crc.spec_more 0 s w (by omega) hs

theorem bytes4_size (n : Nat) : (four.bytes4 n).size = 4 := by simp [four.bytes4, strOfNums_size]

theorem spec_seal (s : ByteArray) (w : World) (hs : s.size ≤ maxLen) :
    Calls Try.prog 6 #[.string s] w fun e w' => e = .returned (.string (sealN s)) ∧ Below w.heap.size w w' := by
  unfold maxLen at hs
  by_cases h : 7996 < s.size
  · rw [show sealN s = ⟨#[]⟩ from if_pos h]
    go_enter Try.func6, Try.ntmps6
    go_wp2
    go_ret
    exact ⟨rfl, Below.refl _ _⟩
  · rw [show sealN s = s ++ four.bytes4 (reg.crcN 0 s.data.toList) from if_neg h]
    have hlt := reg.crcN_lt 0 s.data.toList (by omega)
    go_enter Try.func6, Try.ntmps6
    go_wp2_with fail
    refine (spec_crc_at s _ (by omega)).mono ?_
    rintro e w1 ⟨rfl, rfl⟩
    go_wp2_with fail
    refine (four.spec_four _ _ hlt).mono ?_
    rintro e w2 ⟨rfl, hb⟩
    have h4 := bytes4_size (reg.crcN 0 s.data.toList)
    go_wp2
    go_ret
    exact ⟨rfl, hb⟩

theorem impl_seal (s : ByteArray) (w : World) (hs : s.size ≤ maxLen) :
    Calls Try.prog 5 #[.string s] w fun e w' => e = .returned (.string (sealN s)) ∧ Below w.heap.size w w' := by
  unfold maxLen at hs
  by_cases h : 7996 < s.size
  · rw [show sealN s = ⟨#[]⟩ from if_pos h]
    go_enter Try.func5, Try.ntmps5
    go_wp2
    go_ret
    exact ⟨rfl, Below.refl _ _⟩
  · rw [show sealN s = s ++ four.bytes4 (reg.crcN 0 s.data.toList) from if_neg h]
    have h4 := bytes4_size (reg.crcN 0 s.data.toList)
    go_enter Try.func5, Try.ntmps5
    go_wp2_with fail
    refine (four.impl_sum s _ (by omega)).mono ?_
    rintro e w1 ⟨rfl, hb1⟩
    go_wp2_with fail
    refine (join.joined_any s _ _ (by omega) (by omega)).mono ?_
    rintro e w2 ⟨rfl, hb2⟩
    go_wp2
    go_ret
    exact ⟨rfl, hb1.trans (hb2.mono hb1.size)⟩
end Go.Proofs.Ytjiihkdnpblilaa.sealing
