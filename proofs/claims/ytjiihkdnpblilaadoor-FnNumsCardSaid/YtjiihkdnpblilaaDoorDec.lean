/-
  Plain facts: a number read from its bytes. No program stands in it.
-/
import Derived.Laws.Bits64
import Derived.Laws.BytesArg
import Derived.WalkKit
namespace Go.Proofs.YtjiihkdnpblilaaDoor.dec

/-- from place p on, behind i bytes that told u: what was told, the place behind it, the code -/
def decN : Nat → ByteArray → Nat → Nat → Nat → Nat × Nat × Int
  | 0, _, _, _, _ => (0, 0, 3)
  | f + 1, s, p, i, u =>
    if h : p < s.size then
      if i = 9 ∧ 1 < s[p].toNat then (0, 0, 3)
      else if s[p].toNat < 128 then (if s[p].toNat = 0 ∧ 0 < i then (0, 0, 3) else (u + s[p].toNat * 2 ^ (7 * i), p + 1, 0))
      else decN f s (p + 1) (i + 1) (u + s[p].toNat % 128 * 2 ^ (7 * i))
    else (0, 0, 4)

/-- behind i bytes -/
structure At (R : Nat × Nat × Int) (s : ByteArray) (p i u : Nat) : Prop where
  most : i ≤ 9
  room : u < 2 ^ (7 * i)
  all : decN (10 - i) s p i u = R

theorem at0 (s : ByteArray) (p0 : Nat) : At (decN 10 s p0 0 0) s p0 0 0 := ⟨by omega, by decide, rfl⟩

section
variable {R : Nat × Nat × Int} {s : ByteArray} {p i u : Nat}
theorem at_short (h : At R s p i u) (hp : ¬ p < s.size) : R = (0, 0, 4) := by
  obtain ⟨f, hf⟩ : ∃ f, 10 - i = f + 1 := ⟨9 - i, by have := h.most; omega⟩
  rw [← h.all, hf, decN, dif_neg hp]
theorem at_big (h : At R s p i u) (hp : p < s.size) (hi : i = 9) (hc : 1 < s[p].toNat) : R = (0, 0, 3) := by
  obtain ⟨f, hf⟩ : ∃ f, 10 - i = f + 1 := ⟨9 - i, by have := h.most; omega⟩
  rw [← h.all, hf, decN, dif_pos hp, if_pos ⟨hi, hc⟩]
theorem at_zero (h : At R s p i u) (hp : p < s.size) (hi : 0 < i) (hc : s[p].toNat = 0) : R = (0, 0, 3) := by
  obtain ⟨f, hf⟩ : ∃ f, 10 - i = f + 1 := ⟨9 - i, by have := h.most; omega⟩
  rw [← h.all, hf, decN, dif_pos hp, if_neg (by omega), if_pos (by omega), if_pos ⟨hc, hi⟩]
theorem at_last (h : At R s p i u) (hp : p < s.size) (h9 : i = 9 → s[p].toNat ≤ 1) (hc : s[p].toNat < 128) (h0 : s[p].toNat = 0 → i = 0) :
    R = (u + s[p].toNat * 2 ^ (7 * i), p + 1, 0) := by
  obtain ⟨f, hf⟩ : ∃ f, 10 - i = f + 1 := ⟨9 - i, by have := h.most; omega⟩
  rw [← h.all, hf, decN, dif_pos hp, if_neg (by omega), if_pos hc, if_neg (by omega)]
theorem pow7 (i : Nat) : (2 : Nat) ^ (7 * (i + 1)) = 128 * 2 ^ (7 * i) := by
  rw [show 7 * (i + 1) = 7 * i + 7 by omega, Nat.pow_add, Nat.mul_comm]
theorem at_more (h : At R s p i u) (hp : p < s.size) (hi : i < 9) (hc : 128 ≤ s[p].toNat) :
    At R s (p + 1) (i + 1) (u + s[p].toNat % 128 * 2 ^ (7 * i)) := by
  refine ⟨by omega, ?_, ?_⟩
  · rw [pow7]
    have h1 : s[p].toNat % 128 * 2 ^ (7 * i) ≤ 127 * 2 ^ (7 * i) := Nat.mul_le_mul_right _ (by omega)
    have := h.room
    omega
  · obtain ⟨f, hf⟩ : ∃ f, 10 - i = f + 1 := ⟨9 - i, by omega⟩
    have e : 10 - (i + 1) = f := by omega
    rw [← h.all, hf, e, decN, dif_pos hp, if_neg (by omega), if_neg (by omega)]
end

/-- what is left of 64 bits behind i bytes: room for one byte more -/
theorem room_of (i c : Nat) (hi : i ≤ 9) (hc : c < 128) (h9 : i = 9 → c ≤ 1) : c * 2 ^ (7 * i) + 2 ^ (7 * i) ≤ 18446744073709551616 := by
  have key : c * 2 ^ (7 * i) + 2 ^ (7 * i) = (c + 1) * 2 ^ (7 * i) := by rw [Nat.add_mul, Nat.one_mul]
  rw [key]
  by_cases e : i = 9
  · subst e
    have := h9 rfl
    have e9 : (2 : Nat) ^ (7 * 9) = 9223372036854775808 := by decide
    rw [e9]; omega
  · have h1 : (2 : Nat) ^ (7 * i) ≤ 2 ^ 56 := Nat.pow_le_pow_right (by omega) (by omega)
    have h2 : (c + 1) * 2 ^ (7 * i) ≤ 128 * 2 ^ 56 := Nat.mul_le_mul (by omega) h1
    have e56 : (2 : Nat) ^ 56 = 72057594037927936 := by decide
    rw [e56] at h2; omega

theorem new_lt (i c u : Nat) (hi : i ≤ 9) (hc : c < 128) (h9 : i = 9 → c ≤ 1) (hu : u < 2 ^ (7 * i)) : u + c * 2 ^ (7 * i) < 18446744073709551616 := by
  have := room_of i c hi hc h9; omega

theorem cast_pow (c i : Nat) : ((c : Int) * 2 ^ (7 * i)) = ((c * 2 ^ (7 * i) : Nat) : Int) := by
  rw [Int.natCast_mul]; congr 1

/-- the specification's sum -/
theorem sum_of (i c u : Nat) (hi : i ≤ 9) (h9 : i = 9 → c ≤ 1) (hu : u < 2 ^ (7 * i)) :
    IntKind.u64.wrap ((u : Int) + IntKind.u64.wrap ((c : Int) % 128 * 2 ^ (7 * i))) = ((u + c % 128 * 2 ^ (7 * i) : Nat) : Int) := by
  have h1 := new_lt i (c % 128) u hi (by omega) (fun e => by have := h9 e; omega) hu
  have e1 : ((c : Int) % 128 * 2 ^ (7 * i)) = ((c % 128 * 2 ^ (7 * i) : Nat) : Int) := by rw [← cast_pow]; congr 1
  rw [e1]
  generalize c % 128 * 2 ^ (7 * i) = x at h1
  simp only [IntKind.wrap_u64]
  omega

theorem wrap_u8 (n : Int) : IntKind.u8.wrap n = n % 256 := by simp [IntKind.wrap, IntKind.bits, IntKind.signed]
theorem and127_u8 (c : Nat) (hc : c < 256) : bits .and .u8 (c : Int) 127 = ((c % 128 : Nat) : Int) := by
  show IntKind.u8.wrap ((BitVec.ofInt 8 (c : Int) &&& BitVec.ofInt 8 127).toNat : Int) = _
  have h1 : (BitVec.ofInt 8 127).toNat = 127 := by decide
  have h0 : (BitVec.ofInt 8 (c : Int)).toNat = c := by
    rw [BitVec.ofInt_natCast, BitVec.toNat_ofNat]; exact Nat.mod_eq_of_lt (by omega)
  have h2 : c &&& 127 = c % 128 := Nat.and_two_pow_sub_one_eq_mod c 7
  rw [BitVec.toNat_and, h0, h1, h2, wrap_u8]
  omega
theorem ofInt64 (a : Nat) (ha : a < 18446744073709551616) : (BitVec.ofInt 64 (a : Int)).toNat = a := by
  rw [BitVec.ofInt_natCast, BitVec.toNat_ofNat]; exact Nat.mod_eq_of_lt (by omega)
theorem or_u64 (a b : Nat) (ha : a < 18446744073709551616) (hb : b < 18446744073709551616) (hc : (a ||| b) < 18446744073709551616) :
    bits .or .u64 (a : Int) (b : Int) = ((a ||| b : Nat) : Int) := by
  show IntKind.u64.wrap ((BitVec.ofInt 64 (a : Int) ||| BitVec.ofInt 64 (b : Int)).toNat : Int) = _
  rw [BitVec.toNat_or, ofInt64 a ha, ofInt64 b hb, IntKind.wrap_u64]
  omega
/-- the program's sum -/
theorem or_of (i c u t : Nat) (ht : t = 7 * i) (hi : i ≤ 9) (hc : c < 256) (h9 : i = 9 → c ≤ 1) (hu : u < 2 ^ (7 * i)) :
    bits .or .u64 (u : Int) (IntKind.u64.wrap (IntKind.u64.wrap (bits .and .u8 (c : Int) 127) * 2 ^ t)) = ((u + c % 128 * 2 ^ (7 * i) : Nat) : Int) := by
  subst ht
  have h1 := new_lt i (c % 128) u hi (by omega) (fun e => by have := h9 e; omega) hu
  have e0 : IntKind.u64.wrap (bits .and .u8 (c : Int) 127) = ((c % 128 : Nat) : Int) := by
    rw [and127_u8 c hc, IntKind.wrap_u64]; omega
  have e1 : (((c % 128 : Nat) : Int) * 2 ^ (7 * i)) = ((c % 128 * 2 ^ (7 * i) : Nat) : Int) := cast_pow _ _
  have e2 := Nat.two_pow_add_eq_or_of_lt hu (c % 128)
  rw [e0, e1, Nat.mul_comm (2 ^ (7 * i)) (c % 128)] at *
  generalize c % 128 * 2 ^ (7 * i) = x at *
  have e3 : IntKind.u64.wrap (x : Int) = (x : Int) := by rw [IntKind.wrap_u64]; omega
  have e4 : u ||| x = u + x := by rw [Nat.or_comm]; omega
  rw [e3, or_u64 u x (by omega) (by omega) (by omega), e4]

/-- the number that is told so -/
def unN (u : Nat) : Int := if u % 2 = 1 then -((u / 2 : Nat) : Int) - 1 else ((u / 2 : Nat) : Int)
theorem un_odd (u : Nat) (h : u % 2 = 1) : unN u = -((u : Int) / 2) - 1 := by unfold unN; rw [if_pos h]; omega
theorem un_even (u : Nat) (h : ¬ u % 2 = 1) : unN u = (u : Int) / 2 := by unfold unN; rw [if_neg h]; omega
theorem un_zero : unN 0 = 0 := rfl

theorem dec_lt : ∀ (f : Nat) (s : ByteArray) (p i u : Nat), i + f = 10 → u < 2 ^ (7 * i) → (decN f s p i u).1 < 18446744073709551616 := by
  intro f
  induction f with
  | zero => intro s p i u _ _; simp [decN]
  | succ f ih =>
    intro s p i u hi hu
    rw [decN]
    by_cases hp : p < s.size
    · rw [dif_pos hp]
      by_cases h9 : i = 9 ∧ 1 < s[p].toNat
      · rw [if_pos h9]; decide
      · rw [if_neg h9]
        by_cases hc : s[p].toNat < 128
        · rw [if_pos hc]
          split
          · decide
          · exact new_lt i _ u (by omega) hc (by omega) hu
        · rw [if_neg hc]
          refine ih s (p + 1) (i + 1) _ (by omega) ?_
          rw [pow7]
          have h1 : s[p].toNat % 128 * 2 ^ (7 * i) ≤ 127 * 2 ^ (7 * i) := Nat.mul_le_mul_right _ (by omega)
          omega
    · rw [dif_neg hp]; decide
theorem dec10_lt (s : ByteArray) (p : Nat) : (decN 10 s p 0 0).1 < 18446744073709551616 := dec_lt 10 s p 0 0 rfl (by decide)
theorem dec_at : ∀ (f : Nat) (s : ByteArray) (p i u : Nat), (decN f s p i u).2.1 ≤ s.size := by
  intro f
  induction f with
  | zero => intro s p i u; simp [decN]
  | succ f ih =>
    intro s p i u
    rw [decN]
    split
    · split
      · simp
      · split
        · split
          · simp
          · simp; omega
        · exact ih _ _ _ _
    · simp
theorem dec_code : ∀ (f : Nat) (s : ByteArray) (p i u : Nat), (decN f s p i u).2.2 = 0 ∨ ((decN f s p i u).1 = 0 ∧ (decN f s p i u).2.1 = 0 ∧ ((decN f s p i u).2.2 = 3 ∨ (decN f s p i u).2.2 = 4)) := by
  intro f
  induction f with
  | zero => intro s p i u; simp [decN]
  | succ f ih =>
    intro s p i u
    rw [decN]
    split
    · split
      · simp
      · split
        · split
          · simp
          · simp
        · exact ih _ _ _ _
    · simp
theorem and1_u64 (u : Nat) (hu : u < 18446744073709551616) : bits .and .u64 (u : Int) 1 = ((u % 2 : Nat) : Int) := by
  show IntKind.u64.wrap ((BitVec.ofInt 64 (u : Int) &&& BitVec.ofInt 64 1).toNat : Int) = _
  have h1 : (BitVec.ofInt 64 1).toNat = 1 := by decide
  rw [BitVec.toNat_and, ofInt64 u hu, h1, Nat.and_one_is_mod, IntKind.wrap_u64]
  omega

theorem ones64 (x : Nat) (hx : x < 18446744073709551616) : (BitVec.ofInt 64 (x : Int) ^^^ BitVec.ofInt 64 (-1)).toNat = 18446744073709551615 - x := by
  have e1 : BitVec.ofInt 64 (-1) = BitVec.allOnes 64 := by decide
  rw [e1, BitVec.xor_allOnes, BitVec.toNat_not, ofInt64 x hx]
theorem xor_i64 (u : Nat) (hu : u < 18446744073709551616) :
    bits .xor .i64 ((u : Int) / 2) (Go.RowKit.wrap64 (-Go.RowKit.wrap64 (bits .and .u64 (u : Int) 1))) = unN u := by
  obtain ⟨m, hm⟩ : ∃ m, m = u / 2 := ⟨_, rfl⟩
  have e0 : ((u : Int) / 2) = (m : Int) := by omega
  rw [and1_u64 u hu]
  by_cases h : u % 2 = 1
  · have e1 : Go.RowKit.wrap64 (-Go.RowKit.wrap64 ((u % 2 : Nat) : Int)) = -1 := by
      have i1 : Go.RowKit.wrap64 ((1 : Nat) : Int) = ((1 : Nat) : Int) := IntWalk.wrap64_in _ ⟨by omega, by omega⟩
      rw [h, i1, IntWalk.wrap64_in _ ⟨by omega, by omega⟩]; rfl
    rw [un_odd u h, e1, e0]
    show IntKind.i64.wrap ((BitVec.ofInt 64 (m : Int) ^^^ BitVec.ofInt 64 (-1)).toNat : Int) = _
    rw [ones64 m (by omega), IntKind.wrap_i64]
    omega
  · have h0 : u % 2 = 0 := by omega
    have e1 : Go.RowKit.wrap64 (-Go.RowKit.wrap64 ((u % 2 : Nat) : Int)) = 0 := by
      have i0 : Go.RowKit.wrap64 ((0 : Nat) : Int) = ((0 : Nat) : Int) := IntWalk.wrap64_in _ ⟨by omega, by omega⟩
      rw [h0, i0, IntWalk.wrap64_in _ ⟨by omega, by omega⟩]; rfl
    rw [un_even u h, e1, e0]
    show IntKind.i64.wrap ((BitVec.ofInt 64 (m : Int) ^^^ BitVec.ofInt 64 0).toNat : Int) = _
    have e2 : BitVec.ofInt 64 0 = 0#64 := by decide
    rw [e2, BitVec.xor_zero, ofInt64 m (by omega), IntKind.wrap_i64]
    omega
end Go.Proofs.YtjiihkdnpblilaaDoor.dec
