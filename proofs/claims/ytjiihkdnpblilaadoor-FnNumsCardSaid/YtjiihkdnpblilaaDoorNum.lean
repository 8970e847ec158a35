/-
  Plain facts on a number's bytes: seven bits a byte, the lowest first. No program stands in it.
-/
import Derived.Laws.Bits64
import Derived.Laws.BytesArg
namespace Go.Proofs.YtjiihkdnpblilaaDoor.num

def foldN (n : Int) : Nat := if n < 0 then (2 * -(n + 1) + 1).toNat else (2 * n).toNat
theorem fold_lt (n : Int) (h0 : -9223372036854775808 ≤ n) (h1 : n ≤ 9223372036854775807) : foldN n < 18446744073709551616 := by
  unfold foldN; split <;> omega
theorem fold_pos (n : Int) (h0 : 0 ≤ n) : (foldN n : Int) = 2 * n := by
  unfold foldN; rw [if_neg (by omega)]; omega
theorem fold_neg (n : Int) (h0 : n < 0) : (foldN n : Int) = 2 * -(n + 1) + 1 := by
  unfold foldN; rw [if_pos h0]; omega

def encF : Nat → Nat → List Int
  | 0, u => [(u : Int)]
  | f + 1, u => if u < 128 then [(u : Int)] else ((u % 128 + 128 : Nat) : Int) :: encF f (u / 128)

/-- behind k rounds: 'acc' are the bytes so far, u is what is left -/
structure Inv (u0 k u : Nat) (acc : List Int) : Prop where
  len : acc.length = k
  most : k ≤ 9
  room : u * 128 ^ k < 18446744073709551616
  all : acc ++ encF (9 - k) u = encF 9 u0

theorem inv0 (u0 : Nat) (h : u0 < 18446744073709551616) : Inv u0 0 u0 [] := ⟨rfl, by omega, by simpa using h, rfl⟩

theorem inv_lt {u0 k u : Nat} {acc : List Int} (h : Inv u0 k u acc) (hu : 128 ≤ u) : k < 9 := by
  rcases Nat.lt_or_ge k 9 with hk | hk
  · exact hk
  · have e : k = 9 := by have := h.most; omega
    have := h.room
    rw [e] at this
    have e9 : (128 : Nat) ^ 9 = 9223372036854775808 := by decide
    rw [e9] at this
    omega
theorem inv_step {u0 k u : Nat} {acc : List Int} (h : Inv u0 k u acc) (hu : 128 ≤ u) : Inv u0 (k + 1) (u / 128) (acc ++ [((u % 128 + 128 : Nat) : Int)]) := by
  have hk := inv_lt h hu
  refine ⟨by simp [h.len], by omega, ?_, ?_⟩
  · have h1 : u / 128 * 128 ^ (k + 1) = (u / 128 * 128) * 128 ^ k := by rw [Nat.pow_succ, Nat.mul_assoc, Nat.mul_comm 128 (128 ^ k)]
    rw [h1]
    exact Nat.lt_of_le_of_lt (Nat.mul_le_mul_right _ (by omega)) h.room
  · rw [← h.all]
    obtain ⟨f, hf⟩ : ∃ f, 9 - k = f + 1 := ⟨9 - k - 1, by omega⟩
    have e : 9 - (k + 1) = f := by omega
    rw [hf, e, encF, if_neg (by omega), List.append_assoc]
    rfl
theorem inv_end {u0 k u : Nat} {acc : List Int} (h : Inv u0 k u acc) (hu : u < 128) : acc ++ [(u : Int)] = encF 9 u0 := by
  rw [← h.all]
  cases 9 - k with
  | zero => rfl
  | succ f => rw [encF, if_pos hu]
theorem inv_u {u0 k u : Nat} {acc : List Int} (h : Inv u0 k u acc) : u < 18446744073709551616 :=
  Nat.lt_of_le_of_lt (Nat.le_mul_of_pos_right u (Nat.pow_pos (by omega))) h.room

theorem ofInt64 (a : Nat) (ha : a < 18446744073709551616) : (BitVec.ofInt 64 (a : Int)).toNat = a := by
  rw [BitVec.ofInt_natCast, BitVec.toNat_ofNat]; exact Nat.mod_eq_of_lt (by omega)

theorem and127 (u : Nat) (hu : u < 18446744073709551616) : bits .and .u64 (u : Int) 127 = ((u % 128 : Nat) : Int) := by
  show IntKind.u64.wrap ((BitVec.ofInt 64 (u : Int) &&& BitVec.ofInt 64 127).toNat : Int) = _
  have h1 : (BitVec.ofInt 64 127).toNat = 127 := by decide
  have h2 : u &&& 127 = u % 128 := Nat.and_two_pow_sub_one_eq_mod u 7
  rw [BitVec.toNat_and, ofInt64 u hu, h1, h2, IntKind.wrap_u64]
  omega

theorem wrap_u8 (n : Int) : IntKind.u8.wrap n = n % 256 := by simp [IntKind.wrap, IntKind.bits, IntKind.signed]
theorem or128 (x : Nat) (hx : x < 128) : bits .or .u8 (x : Int) 128 = ((x + 128 : Nat) : Int) := by
  show IntKind.u8.wrap ((BitVec.ofInt 8 (x : Int) ||| BitVec.ofInt 8 128).toNat : Int) = _
  have h1 : (BitVec.ofInt 8 128).toNat = 128 := by decide
  have h0 : (BitVec.ofInt 8 (x : Int)).toNat = x := by
    rw [BitVec.ofInt_natCast, BitVec.toNat_ofNat]; exact Nat.mod_eq_of_lt (by omega)
  have h2 : x ||| 128 = x + 128 := by
    have := Nat.two_pow_add_eq_or_of_lt (i := 7) (b := x) (by omega) 1
    rw [show (2 ^ 7 * 1 : Nat) = 128 from rfl] at this
    rw [Nat.or_comm]; omega
  rw [BitVec.toNat_or, h0, h1, h2, wrap_u8]
  omega
theorem byte_of (u : Nat) (hu : u < 18446744073709551616) : bits .or .u8 (bits .and .u64 (u : Int) 127) 128 = ((u % 128 + 128 : Nat) : Int) := by
  rw [and127 u hu, or128 _ (by omega)]

theorem xor_pos (n : Int) (h0 : 0 ≤ n) (h1 : n ≤ 9223372036854775807) : bits .xor .u64 (n * 2) (n / 9223372036854775808) = (foldN n : Int) := by
  obtain ⟨m, rfl⟩ := Int.eq_ofNat_of_zero_le h0
  have e1 : ((m : Int) * 2) = ((m * 2 : Nat) : Int) := by omega
  have e2 : ((m : Int) / 9223372036854775808) = ((0 : Nat) : Int) := by omega
  rw [e1, e2, bits_xor_u64_nat _ _ (by omega) (by omega), fold_pos _ h0]
  simp
  omega
theorem xor_ones (x : Nat) (hx : x < 18446744073709551616) : x ^^^ 18446744073709551615 = 18446744073709551615 - x := by
  have h := congrArg BitVec.toNat (BitVec.xor_allOnes (x := BitVec.ofNat 64 x))
  simp only [BitVec.toNat_xor, BitVec.toNat_ofNat, BitVec.toNat_allOnes, BitVec.toNat_not] at h
  rw [Nat.mod_eq_of_lt (by omega)] at h
  exact h
theorem xor_neg (n : Int) (h0 : -9223372036854775808 ≤ n) (h1 : n < 0) :
    bits .xor .u64 (IntKind.u64.wrap (IntKind.u64.wrap n * 2)) (IntKind.u64.wrap (n / 9223372036854775808)) = (foldN n : Int) := by
  obtain ⟨m, hm⟩ : ∃ m : Nat, (m : Int) = 2 * n + 18446744073709551616 := ⟨(2 * n + 18446744073709551616).toNat, by omega⟩
  have e1 : IntKind.u64.wrap (IntKind.u64.wrap n * 2) = ((m : Nat) : Int) := by simp only [IntKind.wrap_u64]; omega
  have e2 : IntKind.u64.wrap (n / 9223372036854775808) = ((18446744073709551615 : Nat) : Int) := by simp only [IntKind.wrap_u64]; omega
  rw [e1, e2, bits_xor_u64_nat _ _ (by omega) (by omega), xor_ones _ (by omega), fold_neg _ h1]
  omega
end Go.Proofs.YtjiihkdnpblilaaDoor.num
