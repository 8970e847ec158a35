/-
  The walks of the CRC's functions: each answers the CRC of the text, as a natural number's function tells it.
-/
import Derived.Test.YtjiihkdnpblilaaRows
import Derived.Test.YtjiihkdnpblilaaBits
import Derived.WalkKit
import Derived.ProofKit
import Derived.WalkLawsBesides
namespace Go.Proofs.Ytjiihkdnpblilaa.crc
open Go.RowKit
open Go.Proofs.Ytjiihkdnpblilaa

theorem ret_int {k : IntKind} {a b : Int} (h : a = b) : Ending.returned (.int k a) = .returned (.int k b) := by rw [h]
theorem val_int {k : IntKind} {a b : Int} (h : a = b) : Value.int k a = .int k b := by rw [h]

theorem byte_any (r c : Nat) (w : World) (h0 : r < 4294967296) (c0 : c < 256) :
    Calls Try.prog 24 #[.int .u32 r, .int .u8 c] w fun e w' => e = .returned (.int .u32 (reg.byteN r c : Nat)) ∧ w' = w := by
  have HX : Hid (bits .xor .u32 (r : Int) (c : Int) = ((r ^^^ c : Nat) : Int)) := reg.xor_u32 r c h0 (by omega)
  have HL : Hid (r ^^^ c < 4294967296) := reg.xor_lt r c h0 (by omega)
  go_enter Try.func24, Try.ntmps24
  go_wp2
  go_loop [0, 10] (fun t i => ∃ k x : Nat, k ≤ 8 ∧ i = .int .i64 k ∧ t = .int .u32 x ∧ x < 4294967296 ∧ Hid (x = reg.iterN k (r ^^^ c))) (fun _ i => 8 - (intOf i).toNat)
  case atStart => exact ⟨0, _, by omega, rfl, val_int HX.out, HL.out, rfl⟩
  case round =>
    obtain ⟨k, x, hk, rfl, rfl, hx, H⟩ := hrel
    by_cases hlt : k < 8
    · have hs := reg.step_lt x hx
      have H1 : Hid (reg.stepN x = reg.iterN (k + 1) (r ^^^ c)) := by rw [H.out]; exact rfl
      clear HX HL H
      go_wp2
      · rename_i hb
        go_round
        case rel => exact ⟨k + 1, _, by omega, by go_num, val_int (reg.step_yes x hx hb), hs, H1⟩
        case measure => simp [intOf]; omega
      · rename_i hb
        go_round
        case rel => exact ⟨k + 1, _, by omega, by go_num, val_int (reg.step_no x hx hb), hs, H1⟩
        case measure => simp [intOf]; omega
    · obtain rfl : k = 8 := by omega
      go_wp2
      go_ret
      exact ⟨ret_int (by rw [H.out]; rfl), rfl⟩

theorem impl_more (r : Nat) (s : ByteArray) (w : World) (h0 : r < 4294967296) (hs : s.size ≤ 8000) :
    Calls Try.prog 10 #[.int .i64 r, .string s] w fun e w' => e = .returned (.int .i64 (reg.crcN r s.data.toList : Nat)) ∧ w' = w := by
  have HX : Hid (bits .xor .u32 IntKind.u32.max (r : Int) = ((r ^^^ 4294967295 : Nat) : Int)) := reg.turn_b r h0
  have HL : Hid (r ^^^ 4294967295 < 4294967296) := reg.xor_lt r _ h0 (by omega)
  go_enter Try.func10, Try.ntmps10
  go_wp2
  go_loop [5, 6] (fun t i => ∃ k x : Nat, k ≤ s.size ∧ i = .int .i64 k ∧ t = .int .u32 x ∧ x < 4294967296 ∧ Hid (x = reg.crcL (r ^^^ 4294967295) (s.data.toList.take k))) (fun _ i => s.size - (intOf i).toNat)
  case atStart => exact ⟨0, _, by omega, rfl, val_int HX.out, HL.out, rfl⟩
  case round =>
    obtain ⟨k, x, hk, rfl, rfl, hx, H⟩ := hrel
    clear HX HL
    by_cases hlt : k < s.size
    · have hs := reg.byte_lt x s[k] hx
      have hc := s[k].toNat_lt
      have H1 : Hid (reg.byteN x s[k].toNat = reg.crcL (r ^^^ 4294967295) (s.data.toList.take (k + 1))) := by rw [H.out, reg.crcL_take _ s k hlt]; exact rfl
      clear H
      go_wp2_with (go_at_call 24; refine (byte_any _ _ _ hx (by omega)).mono ?_; rintro e w' ⟨rfl, rfl⟩)
      go_round
      case rel => exact ⟨k + 1, _, by omega, by go_num, rfl, hs, H1⟩
      case measure => simp [intOf]; omega
    · have e := reg.take_all s k hlt
      have HT : Hid (bits .xor .u32 IntKind.u32.max (x : Int) = ((x ^^^ 4294967295 : Nat) : Int)) := reg.turn_b x hx
      have H2 : Hid (x ^^^ 4294967295 = reg.crcN r s.data.toList) := by rw [H.out, e]; exact rfl
      obtain ⟨hb0, hb1⟩ := reg.turn_b_bd x hx
      clear H e
      go_wp2
      go_ret
      exact ⟨ret_int (by rw [← H2.out]; exact HT.out), rfl⟩

set_option maxHeartbeats 1000000 in
theorem spec_more (r : Nat) (s : ByteArray) (w : World) (h0 : r < 4294967296) (hs : s.size ≤ 8000) :
    Calls Try.prog 20 #[.int .i64 r, .string s] w fun e w' => e = .returned (.int .i64 (reg.crcN r s.data.toList : Nat)) ∧ w' = w := by
  have HX : Hid (bits .xor .u32 (r : Int) 4294967295 = ((r ^^^ 4294967295 : Nat) : Int)) := reg.turn_a r h0
  have HL : Hid (r ^^^ 4294967295 < 4294967296) := reg.xor_lt r _ h0 (by omega)
  go_enter Try.func20, Try.ntmps20
  go_wp2
  go_loop [5, 6] (fun t i => ∃ k x : Nat, k ≤ s.size ∧ i = .int .i64 k ∧ t = .int .u32 x ∧ x < 4294967296 ∧ Hid (x = reg.crcL (r ^^^ 4294967295) (s.data.toList.take k))) (fun _ i => s.size - (intOf i).toNat)
  case atStart => exact ⟨0, _, by omega, rfl, val_int HX.out, HL.out, rfl⟩
  case round =>
    obtain ⟨k, x, hk, rfl, rfl, hx, H⟩ := hrel
    clear HX HL
    by_cases hlt : k < s.size
    · have hc := s[k].toNat_lt
      have HX : Hid (bits .xor .u32 (x : Int) (s[k].toNat : Int) = ((x ^^^ s[k].toNat : Nat) : Int)) := reg.xor_u32 x _ hx (by omega)
      have HL : Hid (x ^^^ s[k].toNat < 4294967296) := reg.xor_lt x _ hx (by omega)
      have hs := reg.byte_lt x s[k] hx
      have H1 : Hid (reg.byteN x s[k].toNat = reg.crcL (r ^^^ 4294967295) (s.data.toList.take (k + 1))) := by rw [H.out, reg.crcL_take _ s k hlt]; exact rfl
      clear H
      go_wp2
      go_loop [5, 7] (fun t i => ∃ j y : Nat, j ≤ 8 ∧ i = .int .i64 j ∧ t = .int .u32 y ∧ y < 4294967296 ∧ Hid (y = reg.iterN j (x ^^^ s[k].toNat))) (fun _ i => 8 - (intOf i).toNat)
      case atStart => exact ⟨0, _, by omega, rfl, val_int HX.out, HL.out, rfl⟩
      case round =>
        obtain ⟨j, y, hj, rfl, rfl, hy, H⟩ := hrel
        by_cases hl8 : j < 8
        · have hsl := reg.step_lt y hy
          have H3 : Hid (reg.stepN y = reg.iterN (j + 1) (x ^^^ s[k].toNat)) := by rw [H.out]; exact rfl
          clear HX HL H
          go_wp2
          · rename_i hb
            go_round
            case rel => exact ⟨j + 1, _, by omega, by go_num, val_int (reg.step_yes y hy hb), hsl, H3⟩
            case measure => simp [intOf]; omega
          · rename_i hb
            go_round
            case rel => exact ⟨j + 1, _, by omega, by go_num, val_int (reg.step_no y hy hb), hsl, H3⟩
            case measure => simp [intOf]; omega
        · obtain rfl : j = 8 := by omega
          have H4 : Hid (y = reg.byteN x s[k].toNat) := by rw [H.out]; exact rfl
          clear H HX HL
          go_wp2
          go_round
          case rel => exact ⟨k + 1, y, by omega, by go_num, rfl, hy, by rw [H4.out]; exact H1⟩
          case measure => simp [intOf]; omega
    · have e := reg.take_all s k hlt
      have HT : Hid (bits .xor .u32 (x : Int) 4294967295 = ((x ^^^ 4294967295 : Nat) : Int)) := reg.turn_a x hx
      have H2 : Hid (x ^^^ 4294967295 = reg.crcN r s.data.toList) := by rw [H.out, e]; exact rfl
      obtain ⟨hb0, hb1⟩ := reg.turn_a_bd x hx
      clear H e
      go_wp2
      go_ret
      exact ⟨ret_int (by rw [← H2.out]; exact HT.out), rfl⟩
end Go.Proofs.Ytjiihkdnpblilaa.crc
