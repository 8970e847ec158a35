/-
  Plain facts on 32 bits and the CRC's register, as natural numbers. No program stands in it.
-/
import Derived.Laws.Entries
import Derived.Laws.BytesArg
namespace Go.Proofs.Ytjiihkdnpblilaa.reg

theorem wrap_u32 (n : Int) : IntKind.u32.wrap n = n % 4294967296 := by simp [IntKind.wrap, IntKind.bits, IntKind.signed]

theorem xor_lt (a b : Nat) (ha : a < 4294967296) (hb : b < 4294967296) : a ^^^ b < 4294967296 :=
  Nat.xor_lt_two_pow (n := 32) ha hb

theorem ofInt_nat (a : Nat) (ha : a < 4294967296) : (BitVec.ofInt 32 (a : Int)).toNat = a := by
  rw [BitVec.ofInt_natCast, BitVec.toNat_ofNat]; exact Nat.mod_eq_of_lt ha

theorem xor_u32 (a b : Nat) (ha : a < 4294967296) (hb : b < 4294967296) :
    bits .xor .u32 (a : Int) (b : Int) = ((a ^^^ b : Nat) : Int) := by
  have hx := xor_lt a b ha hb
  show IntKind.u32.wrap ((BitVec.ofInt 32 (a : Int) ^^^ BitVec.ofInt 32 (b : Int)).toNat : Int) = _
  rw [BitVec.toNat_xor, ofInt_nat a ha, ofInt_nat b hb, wrap_u32]
  omega

theorem and_u32 (a : Nat) (ha : a < 4294967296) : bits .and .u32 (a : Int) 1 = ((a % 2 : Nat) : Int) := by
  show IntKind.u32.wrap ((BitVec.ofInt 32 (a : Int) &&& BitVec.ofInt 32 1).toNat : Int) = _
  have h1 : (BitVec.ofInt 32 1).toNat = 1 := by decide
  rw [BitVec.toNat_and, ofInt_nat a ha, h1, wrap_u32, Nat.and_one_is_mod]
  omega

def stepN (x : Nat) : Nat := if x % 2 = 1 then (x / 2) ^^^ 3988292384 else x / 2
def iterN : Nat → Nat → Nat
  | 0, x => x
  | k + 1, x => stepN (iterN k x)
def byteN (r c : Nat) : Nat := iterN 8 (r ^^^ c)
def crcL (r : Nat) (l : List UInt8) : Nat := l.foldl (fun r c => byteN r c.toNat) r
def crcN (c : Nat) (l : List UInt8) : Nat := crcL (c ^^^ 4294967295) l ^^^ 4294967295

theorem step_lt (x : Nat) (hx : x < 4294967296) : stepN x < 4294967296 := by
  unfold stepN
  split
  · exact xor_lt _ _ (by omega) (by omega)
  · omega
theorem iter_lt (k x : Nat) (hx : x < 4294967296) : iterN k x < 4294967296 := by
  induction k with
  | zero => exact hx
  | succ k ih => exact step_lt _ ih
theorem byte_lt (r : Nat) (c : UInt8) (hr : r < 4294967296) : byteN r c.toNat < 4294967296 :=
  iter_lt _ _ (xor_lt _ _ hr (by have := c.toNat_lt; omega))
theorem crcL_lt (l : List UInt8) : ∀ (r : Nat), r < 4294967296 → crcL r l < 4294967296 := by
  induction l with
  | nil => intro r hr; exact hr
  | cons c l ih => intro r hr; exact ih _ (byte_lt r c hr)
theorem crcN_lt (c : Nat) (l : List UInt8) (hc : c < 4294967296) : crcN c l < 4294967296 :=
  xor_lt _ _ (crcL_lt l _ (xor_lt _ _ hc (by omega))) (by omega)
theorem crcL_snoc (r : Nat) (l : List UInt8) (c : UInt8) : crcL r (l ++ [c]) = byteN (crcL r l) c.toNat := by
  simp [crcL]

theorem step_yes (x : Nat) (hx : x < 4294967296) (h : (bits .and .u32 (x : Int) 1 == 1) = true) :
    bits .xor .u32 ((x : Int) / 2) 3988292384 = ((stepN x : Nat) : Int) := by
  rw [and_u32 x hx] at h
  have h' : x % 2 = 1 := by simp only [beq_iff_eq] at h; omega
  have e : ((x : Int) / 2) = ((x / 2 : Nat) : Int) := by omega
  have e2 : (3988292384 : Int) = ((3988292384 : Nat) : Int) := by omega
  rw [e, e2, xor_u32 _ _ (by omega) (by omega)]
  unfold stepN
  rw [if_pos h']
theorem step_no (x : Nat) (hx : x < 4294967296) (h : (bits .and .u32 (x : Int) 1 == 1) = false) :
    ((x : Int) / 2) = ((stepN x : Nat) : Int) := by
  rw [and_u32 x hx] at h
  have h' : ¬ x % 2 = 1 := by
    intro e
    rw [e] at h
    simp at h
  unfold stepN
  rw [if_neg h']
  omega
theorem turn_a (x : Nat) (hx : x < 4294967296) : bits .xor .u32 (x : Int) 4294967295 = ((x ^^^ 4294967295 : Nat) : Int) := by
  have e2 : (4294967295 : Int) = ((4294967295 : Nat) : Int) := by omega
  rw [e2, xor_u32 _ _ hx (by omega)]
theorem turn_b (x : Nat) (hx : x < 4294967296) : bits .xor .u32 IntKind.u32.max (x : Int) = ((x ^^^ 4294967295 : Nat) : Int) := by
  have e2 : IntKind.u32.max = ((4294967295 : Nat) : Int) := by simp [IntKind.max, IntKind.bits, IntKind.signed]
  rw [e2, xor_u32 _ _ (by omega) hx, Nat.xor_comm]

theorem turn_a_bd (x : Nat) (hx : x < 4294967296) : 0 ≤ bits .xor .u32 (x : Int) 4294967295 ∧ bits .xor .u32 (x : Int) 4294967295 ≤ 4294967295 := by
  have := xor_lt x 4294967295 hx (by omega)
  rw [turn_a x hx]; omega
theorem turn_b_bd (x : Nat) (hx : x < 4294967296) : 0 ≤ bits .xor .u32 IntKind.u32.max (x : Int) ∧ bits .xor .u32 IntKind.u32.max (x : Int) ≤ 4294967295 := by
  have := xor_lt x 4294967295 hx (by omega)
  rw [turn_b x hx]; omega

theorem take_snoc (s : ByteArray) (k : Nat) (h : k < s.size) : s.data.toList.take (k + 1) = s.data.toList.take k ++ [s[k]] := by
  rw [List.take_succ_eq_append_getElem (by simpa using h)]; rfl
theorem crcL_take (r : Nat) (s : ByteArray) (k : Nat) (h : k < s.size) : crcL r (s.data.toList.take (k + 1)) = byteN (crcL r (s.data.toList.take k)) s[k].toNat := by
  rw [take_snoc s k h, crcL_snoc]
theorem take_all (s : ByteArray) (k : Nat) (h : ¬ k < s.size) : s.data.toList.take k = s.data.toList :=
  List.take_of_length_le (by simp; omega)
end Go.Proofs.Ytjiihkdnpblilaa.reg
