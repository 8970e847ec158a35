/-
  Unseal at every text: the specification and the program tell the same; and the comparison of two that are the same.
-/
import Derived.Test.YtjiihkdnpblilaaUnseal
namespace Go.Proofs.Ytjiihkdnpblilaa.opening
open Go.RowKit Go.Deep
open Go.Proofs.Ytjiihkdnpblilaa

theorem inner_tail (s : ByteArray) : inner s ++ tail s = s := by
  apply ByteArray.ext
  simp [inner, tail]

theorem toList_add (a b : ByteArray) : (a ++ b).toList = a.toList ++ b.toList := by
  rw [ByteArray.toList_eq, ByteArray.toList_eq, ByteArray.toList_eq]
  simp

theorem same_test (s : ByteArray) (h2 : s.size ≤ 8000) :
    ((sealing.sealN (inner s)).toList == s.toList) = ((four.bytes4 (reg.crcN 0 (inner s).data.toList)).toList == (tail s).toList) := by
  have e1 : sealing.sealN (inner s) = inner s ++ four.bytes4 (reg.crcN 0 (inner s).data.toList) := if_neg (by rw [inner_size]; omega)
  have e2 : s.toList = (inner s).toList ++ (tail s).toList := by
    conv => lhs; rw [← inner_tail s]
    exact toList_add _ _
  rw [e1, e2]
  generalize four.bytes4 (reg.crcN 0 (inner s).data.toList) = b
  rw [Bool.eq_iff_iff, toList_add]
  simp

/-- what Unseal tells -/
def told (s : ByteArray) : ByteArray × Int :=
  if 8000 < s.size then (⟨#[]⟩, 2) else if s.size < 4 then (⟨#[]⟩, 4) else
    if ((four.bytes4 (reg.crcN 0 (inner s).data.toList)).toList == (tail s).toList) = true then (inner s, 0) else (⟨#[]⟩, 5)

theorem impl_unseal (s : ByteArray) (w : World) (hs : s.size ≤ maxLen) :
    Calls Try.prog 8 #[.string s] w fun e w' => e = .returned (.agg #[.string (told s).1, .int .i64 0, .int .i64 (told s).2]) ∧ Below w.heap.size w w' := by
  by_cases h1 : 8000 < s.size
  · rw [show told s = (⟨#[]⟩, 2) from if_pos h1]; exact impl_size s w hs h1
  by_cases h2 : s.size < 4
  · rw [show told s = (⟨#[]⟩, 4) by unfold told; rw [if_neg h1, if_pos h2]]; exact impl_short s w h2
  have h4 := same_test s (by omega)
  by_cases h3 : ((four.bytes4 (reg.crcN 0 (inner s).data.toList)).toList == (tail s).toList) = true
  · rw [show told s = (inner s, 0) by unfold told; rw [if_neg h1, if_neg h2, if_pos h3]]; exact impl_good s w (by omega) (by omega) (h4.trans h3)
  · rw [show told s = (⟨#[]⟩, 5) by unfold told; rw [if_neg h1, if_neg h2, if_neg h3]]; exact impl_bad s w (by omega) (by omega) (h4.trans (by simpa using h3))

end Go.Proofs.Ytjiihkdnpblilaa.opening
