/-
  The walks of Crc and CrcMore, the specification's and the program's, at every argument.
-/
import Derived.Test.YtjiihkdnpblilaaCrc
namespace Go.Proofs.Ytjiihkdnpblilaa.crc
open Go.RowKit
open Go.Proofs.Ytjiihkdnpblilaa

theorem impl_more_no (r : Int) (s : ByteArray) (w : World) (hs : s.size ≤ maxLen) (h : 8000 < s.size ∨ r < 0 ∨ 4294967295 < r) :
    Calls Try.prog 10 #[.int .i64 r, .string s] w fun e w' => e = .returned (.int .i64 0) ∧ w' = w := by
  unfold maxLen at hs
  by_cases h1 : 8000 < s.size
  · go_enter Try.func10, Try.ntmps10
    go_wp2
    go_ret
    exact ⟨rfl, rfl⟩
  · by_cases h2 : r < 0
    · go_enter Try.func10, Try.ntmps10
      go_wp2
      go_ret
      exact ⟨rfl, rfl⟩
    · have h3 : 4294967295 < r := by omega
      go_enter Try.func10, Try.ntmps10
      go_wp2
      go_ret
      exact ⟨rfl, rfl⟩

theorem specm_no (r : Int) (s : ByteArray) (w : World) (hs : s.size ≤ maxLen) (h : 8000 < s.size ∨ r < 0 ∨ 4294967295 < r) :
    Calls Try.prog 11 #[.int .i64 r, .string s] w fun e w' => e = .returned (.int .i64 0) ∧ w' = w := by
  unfold maxLen at hs
  by_cases h1 : 8000 < s.size
  · go_enter Try.func11, Try.ntmps11
    go_wp2
    go_ret
    exact ⟨rfl, rfl⟩
  · by_cases h2 : r < 0
    · go_enter Try.func11, Try.ntmps11
      go_wp2
      go_ret
      exact ⟨rfl, rfl⟩
    · have h3 : 4294967295 < r := by omega
      go_enter Try.func11, Try.ntmps11
      go_wp2
      go_ret
      exact ⟨rfl, rfl⟩

theorem specm_yes (r : Nat) (s : ByteArray) (w : World) (h0 : r < 4294967296) (hs : s.size ≤ 8000) :
    Calls Try.prog 11 #[.int .i64 r, .string s] w fun e w' => e = .returned (.int .i64 (reg.crcN r s.data.toList : Nat)) ∧ w' = w := by
  go_enter Try.func11, Try.ntmps11
  go_wp2_with (go_at_call 20; refine (spec_more _ _ _ h0 hs).mono ?_; rintro e w' ⟨rfl, rfl⟩)
  go_ret
  exact ⟨rfl, rfl⟩

/-- CrcMore at every argument -/
def moreN (r : Int) (s : ByteArray) : Int := if 8000 < s.size ∨ r < 0 ∨ 4294967295 < r then 0 else (reg.crcN r.toNat s.data.toList : Nat)

theorem spec_crcMore (r : Int) (s : ByteArray) (w : World) (hs : s.size ≤ maxLen) :
    Calls Try.prog 11 #[.int .i64 r, .string s] w fun e w' => e = .returned (.int .i64 (moreN r s)) ∧ w' = w := by
  by_cases h : 8000 < s.size ∨ r < 0 ∨ 4294967295 < r
  · rw [show moreN r s = 0 from if_pos h]; exact specm_no r s w hs h
  · obtain ⟨n, rfl⟩ := Int.eq_ofNat_of_zero_le (show 0 ≤ r by omega)
    rw [show moreN n s = (reg.crcN n s.data.toList : Nat) from if_neg h]
    exact specm_yes n s w (by omega) (by omega)
theorem impl_crcMore (r : Int) (s : ByteArray) (w : World) (hs : s.size ≤ maxLen) :
    Calls Try.prog 10 #[.int .i64 r, .string s] w fun e w' => e = .returned (.int .i64 (moreN r s)) ∧ w' = w := by
  by_cases h : 8000 < s.size ∨ r < 0 ∨ 4294967295 < r
  · rw [show moreN r s = 0 from if_pos h]; exact impl_more_no r s w hs h
  · obtain ⟨n, rfl⟩ := Int.eq_ofNat_of_zero_le (show 0 ≤ r by omega)
    rw [show moreN n s = (reg.crcN n s.data.toList : Nat) from if_neg h]
    exact impl_more n s w (by omega) (by omega)
theorem impl_crc (s : ByteArray) (w : World) (hs : s.size ≤ maxLen) :
    Calls Try.prog 12 #[.string s] w fun e w' => e = .returned (.int .i64 (moreN 0 s)) ∧ w' = w := by
  go_enter Try.func12, Try.ntmps12
  go_wp2_with (go_at_call 10; refine (impl_crcMore _ _ _ hs).mono ?_; rintro e w' ⟨rfl, rfl⟩)
  go_ret
  exact ⟨rfl, rfl⟩
theorem spec_crc (s : ByteArray) (w : World) (hs : s.size ≤ maxLen) :
    Calls Try.prog 23 #[.string s] w fun e w' => e = .returned (.int .i64 (moreN 0 s)) ∧ w' = w := by
  have hm := hs
  unfold maxLen at hm
  by_cases h : 8000 < s.size
  · rw [show moreN 0 s = 0 from if_pos (Or.inl h)]
    go_enter Try.func23, Try.ntmps23
    go_wp2
    go_ret
    exact ⟨rfl, rfl⟩
  · have H : Hid (moreN 0 s = (reg.crcN 0 s.data.toList : Nat)) := if_neg (by omega)
    have hh : s.size ≤ 8000 := by omega
    go_enter Try.func23, Try.ntmps23
    go_wp2_with (go_at_call 20; refine (spec_more 0 _ _ (by omega) hh).mono ?_; rintro e w' ⟨rfl, rfl⟩)
    go_ret
    exact ⟨ret_int H.out.symm, rfl⟩
end Go.Proofs.Ytjiihkdnpblilaa.crc
