/-
  Plain facts on names: keys, Mix, the four rounds and their way back, as natural numbers. No program stands in it.
-/
import Derived.Laws.Entries
import Derived.Laws.BytesArg
import Derived.IntWalk
namespace Go.Proofs.Ytohgafblffnekaa.pm

/-- is it a number of two bytes? -/
def keyB (n : Int) : Bool := decide (0 ≤ n ∧ n ≤ 65535)
theorem key_yes (n : Int) (h : keyB n = true) : 0 ≤ n ∧ n ≤ 65535 := by simpa [keyB] using h
theorem key_of (n : Int) (h0 : 0 ≤ n) (h1 : n ≤ 65535) : keyB n = true := by simp [keyB, h0, h1]
theorem key_not (n : Int) (h : n < 0 ∨ 65535 < n) : keyB n = false := by simp [keyB]; omega
theorem key_nat (n : Int) (h : keyB n = true) : ∃ k : Nat, k < 65536 ∧ n = (k : Int) := ⟨n.toNat, by have := key_yes n h; omega, by have := key_yes n h; omega⟩

def mixN (k r h : Nat) : Nat := (h + r) * (k + 2 * r + 1) / 8 % 256
theorem mix_lt (k r h : Nat) : mixN k r h < 256 := Nat.mod_lt _ (by decide)

/-- a round, and its way back -/
def step (k r : Nat) (p : Nat × Nat) : Nat × Nat := (p.2, p.1 ^^^ mixN k r p.2)
def back (k r : Nat) (p : Nat × Nat) : Nat × Nat := (p.2 ^^^ mixN k r p.1, p.1)
def Half (p : Nat × Nat) : Prop := p.1 < 256 ∧ p.2 < 256
theorem xor_lt (a b : Nat) (ha : a < 256) (hb : b < 256) : a ^^^ b < 256 := Nat.xor_lt_two_pow (n := 8) ha hb
theorem step_half (k r : Nat) (p) (h : Half p) : Half (step k r p) := ⟨h.2, xor_lt _ _ h.1 (mix_lt _ _ _)⟩
theorem back_half (k r : Nat) (p) (h : Half p) : Half (back k r p) := ⟨xor_lt _ _ h.2 (mix_lt _ _ _), h.1⟩
theorem back_step (k r : Nat) (p) : back k r (step k r p) = p := by
  simp only [back, step, Nat.xor_assoc, Nat.xor_self, Nat.xor_zero]
theorem step_back (k r : Nat) (p) : step k r (back k r p) = p := by
  simp only [back, step, Nat.xor_assoc, Nat.xor_self, Nat.xor_zero]

/-- the first i rounds; the first i of the way back (the last round is the first one to be undone) -/
def fwd (k : Nat) : Nat → Nat × Nat → Nat × Nat
  | 0, p => p
  | i + 1, p => step k i (fwd k i p)
def bwd (k : Nat) : Nat → Nat × Nat → Nat × Nat
  | 0, p => p
  | i + 1, p => back k (3 - i) (bwd k i p)
theorem fwd_half (k : Nat) (p) (h : Half p) : ∀ i, Half (fwd k i p)
  | 0 => h
  | i + 1 => step_half _ _ _ (fwd_half k p h i)
theorem bwd_half (k : Nat) (p) (h : Half p) : ∀ i, Half (bwd k i p)
  | 0 => h
  | i + 1 => back_half _ _ _ (bwd_half k p h i)
theorem bwd_fwd (k : Nat) (p) : bwd k 4 (fwd k 4 p) = p := by simp only [bwd, fwd, back_step]
theorem fwd_bwd (k : Nat) (p) : fwd k 4 (bwd k 4 p) = p := by simp only [bwd, fwd, step_back]

def cut (n : Nat) : Nat × Nat := (n / 256, n % 256)
def glue (p : Nat × Nat) : Nat := p.1 * 256 + p.2
theorem cut_half (n : Nat) (h : n < 65536) : Half (cut n) := ⟨by show n / 256 < 256; omega, by show n % 256 < 256; omega⟩
theorem glue_lt (p) (h : Half p) : glue p < 65536 := by
  have := h.1; have := h.2; simp only [glue]; omega
theorem cut_glue (p) (h : Half p) : cut (glue p) = p := by
  have h1 := h.1; have h2 := h.2
  obtain ⟨a, b⟩ := p
  simp only [cut, glue, Prod.mk.injEq] at *
  omega
theorem glue_cut (n : Nat) : glue (cut n) = n := by simp only [cut, glue]; omega

def permN (k n : Nat) : Nat := glue (fwd k 4 (cut n))
def unpermN (k n : Nat) : Nat := glue (bwd k 4 (cut n))
theorem perm_lt (k n : Nat) (h : n < 65536) : permN k n < 65536 := glue_lt _ (fwd_half _ _ (cut_half n h) _)
theorem unperm_lt (k n : Nat) (h : n < 65536) : unpermN k n < 65536 := glue_lt _ (bwd_half _ _ (cut_half n h) _)
theorem unperm_perm (k n : Nat) (h : n < 65536) : unpermN k (permN k n) = n := by
  rw [unpermN, permN, cut_glue _ (fwd_half _ _ (cut_half n h) _), bwd_fwd, glue_cut]
theorem perm_unperm (k n : Nat) (h : n < 65536) : permN k (unpermN k n) = n := by
  rw [unpermN, permN, cut_glue _ (bwd_half _ _ (cut_half n h) _), fwd_bwd, glue_cut]
theorem perm_inj (k n m : Nat) (hn : n < 65536) (hm : m < 65536) (h : permN k n = permN k m) : n = m := by
  rw [← unperm_perm k n hn, h, unperm_perm k m hm]

/-- what Mix, Permute, Unpermute answer -/
def mixB (k r h : Int) : Bool := keyB k && decide (0 ≤ r ∧ r ≤ 3) && decide (0 ≤ h ∧ h ≤ 255)
def mixI (k r h : Int) : Int := if mixB k r h then (mixN k.toNat r.toNat h.toNat : Int) else -1
def permI (k n : Int) : Int := if keyB k && keyB n then (permN k.toNat n.toNat : Int) else -1
def unpermI (k n : Int) : Int := if keyB k && keyB n then (unpermN k.toNat n.toNat : Int) else -1

/-- exclusive or at the two kinds -/
theorem ofInt_nat8 (a : Nat) (ha : a < 256) : (BitVec.ofInt 8 (a : Int)).toNat = a := by
  rw [BitVec.ofInt_natCast, BitVec.toNat_ofNat]; exact Nat.mod_eq_of_lt ha
theorem ofInt_nat64 (a : Nat) (ha : a < 65536) : (BitVec.ofInt 64 (a : Int)).toNat = a := by
  rw [BitVec.ofInt_natCast, BitVec.toNat_ofNat]; exact Nat.mod_eq_of_lt (by omega)
theorem xor_u8 (a b : Nat) (ha : a < 256) (hb : b < 256) : bits .xor .u8 (a : Int) (b : Int) = ((a ^^^ b : Nat) : Int) := by
  have hx := xor_lt a b ha hb
  show IntKind.u8.wrap ((BitVec.ofInt 8 (a : Int) ^^^ BitVec.ofInt 8 (b : Int)).toNat : Int) = _
  rw [BitVec.toNat_xor, ofInt_nat8 a ha, ofInt_nat8 b hb, IntKind.wrap_u8]
  omega
theorem xor_i64 (a b : Nat) (ha : a < 256) (hb : b < 256) : bits .xor .i64 (a : Int) (b : Int) = ((a ^^^ b : Nat) : Int) := by
  have hx := xor_lt a b ha hb
  show IntKind.i64.wrap ((BitVec.ofInt 64 (a : Int) ^^^ BitVec.ofInt 64 (b : Int)).toNat : Int) = _
  rw [BitVec.toNat_xor, ofInt_nat64 a (by omega), ofInt_nat64 b (by omega), IntKind.wrap_i64]
  omega
/-- two halves put together by 'or' -/
theorem or_glue (a b : Nat) (ha : a < 256) (hb : b < 256) : bits .or .i64 ((a : Int) * 256) (b : Int) = ((a * 256 + b : Nat) : Int) := by
  have e : ((a : Int) * 256) = ((a * 256 : Nat) : Int) := by omega
  rw [e]
  show IntKind.i64.wrap ((BitVec.ofInt 64 ((a * 256 : Nat) : Int) ||| BitVec.ofInt 64 (b : Int)).toNat : Int) = _
  rw [BitVec.toNat_or, ofInt_nat64 (a * 256) (by omega), ofInt_nat64 b (by omega), IntKind.wrap_i64]
  have h := Nat.two_pow_add_eq_or_of_lt (i := 8) (b := b) hb a
  have h2 : a * 256 ||| b = a * 256 + b := by rw [Nat.mul_comm a 256]; exact h.symm
  rw [h2]; omega
end Go.Proofs.Ytohgafblffnekaa.pm
