/-
  The walks of the four bytes of a CRC.
-/
import Derived.Test.YtjiihkdnpblilaaJoin
import Derived.Test.YtjiihkdnpblilaaCrcTop
namespace Go.Proofs.Ytjiihkdnpblilaa.four
open Go.RowKit Go.Deep
open Go.Proofs.Ytjiihkdnpblilaa

theorem conv4 (t : TypeId) (a b c d : Int) (w : World) : (convert 22 9 (.slice (some ⟨w.heap.size, 0, none⟩) 4 4)).run Try.prog (w.alloc (.cells #[.int .u8 a, .int .u8 b, .int .u8 c, .int .u8 d] t)) = .ok (.string (strOfNums [a, b, c, d])) (w.alloc (.cells #[.int .u8 a, .int .u8 b, .int .u8 c, .int .u8 d] t)) := by
  refine run_convert_bytes_arg (P := Try.prog) _ 22 5 Try.underlying22 Try.underlying5 w.heap.size 0 4 4 [a, b, c, d] rfl (fun i hi => ?_) 9 Try.underlying9
  match i, hi with
  | 0, _ => simp
  | 1, _ => simp
  | 2, _ => simp
  | 3, _ => simp

/-- the four bytes of a number, the lowest first -/
def bytes4 (n : Nat) : ByteArray := strOfNums [(n : Int) % 256, (n : Int) / 256 % 256, (n : Int) / 65536 % 256, (n : Int) / 16777216]

theorem spec_four (n : Nat) (w : World) (hn : n < 4294967296) :
    Calls Try.prog 19 #[.int .i64 n] w fun e w' => e = .returned (.string (bytes4 n)) ∧ Below w.heap.size w w' := by
  have hc := conv4
  go_enter Try.func19, Try.ntmps19
  go_wp2
  go_ret
  exact ⟨rfl, (Below.refl _ _).alloc (Nat.le_refl _) _⟩

theorem impl_crc_at (s : ByteArray) (w : World) (hs : s.size ≤ 8000) :
    Calls Try.prog 12 #[.string s] w fun e w' => e = .returned (.int .i64 (reg.crcN 0 s.data.toList : Nat)) ∧ w' = w := by
  refine (crc.impl_crc s w (by unfold maxLen; omega)).mono ?_
  rintro e w' ⟨rfl, rfl⟩
  exact ⟨crc.ret_int (if_neg (by omega)), rfl⟩

theorem impl_sum (t : ByteArray) (w : World) (hs : t.size ≤ 8000) :
    Calls Try.prog 18 #[.string t] w fun e w' => e = .returned (.string (bytes4 (reg.crcN 0 t.data.toList))) ∧ Below w.heap.size w w' := by
  obtain ⟨n, hn⟩ : ∃ n, n = reg.crcN 0 t.data.toList := ⟨_, rfl⟩
  have hlt := reg.crcN_lt 0 t.data.toList (by omega)
  have hcall := impl_crc_at t w hs
  rw [← hn] at hlt hcall ⊢
  clear hn
  have hc := conv4
  go_enter Try.func18, Try.ntmps18
  go_wp2_with (go_at_call 12; refine hcall.mono ?_; clear hcall; rintro e w' ⟨rfl, rfl⟩)
  refine wp_loop_rounds 5 ?_
  iterate 5
    rw [rounds_succ]
    go_wp2
  go_ret
  exact ⟨rfl, (Below.refl _ _).alloc (Nat.le_refl _) _⟩
end Go.Proofs.Ytjiihkdnpblilaa.four
