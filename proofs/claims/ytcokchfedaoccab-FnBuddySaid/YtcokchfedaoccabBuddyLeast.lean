/-
  The walk of the program's leastOrder: the least order, from one on, of which a block is free.
-/
import Derived.Test.YtcokchfedaoccabBuddyAdd
import Derived.Lib.BitFns
import Derived.Laws.ShiftsVarLaws
namespace Go.Proofs.Ytcokchfedaoccab.bpool
open Go.RowKit Go.Deep Go.Maps Go.Sort
open Go.Proofs.Ytcokchfedaoccab
open Go.Proofs.Ytcokchfedaoccab.brows
open Go.Proofs.Ytcokchfedaoccab.bspec
open Go.Proofs.Ytcokchfedaoccab.bimpl
open Go.Proofs.Ytcokchfedaoccab.bd (Blk)
set_option linter.unusedVariables false

set_option maxRecDepth 100000 in
theorem impl_tz (x : Int) (w : World) (h0 : 0 ≤ x) (h1 : x ≤ 255) : Calls Try.prog 61 #[.int .u8 x] w fun e w' => e = .returned (.int .i64 (Lib.trailingZeros8 x.toNat)) ∧ w' = w := by
  rw [← Lib.ntz8_int x h0 h1]
  go_enter Try.func61, Try.ntmps61
  go_wp2
  go_ret
  generalize Lib.ntz8 x = z
  exact ⟨ret_int (by simp only [wrap64]), rfl⟩

/-- the bits of the orders that are there -/
def Bits (l : List Blk) (m : Nat) : Prop := ∀ k, m.testBit k = true ↔ ∃ y ∈ l, y.2 = k
/-- the least order from o on -/
def Least (l : List Blk) (o r : Nat) : Prop := o ≤ r ∧ (∀ y ∈ l, o ≤ y.2 → r ≤ y.2) ∧ ((∃ y ∈ l, y.2 = r) ∨ (5 < r ∧ ∀ y ∈ l, y.2 < o))
theorem tz_all : ∀ m : Fin 64, ∀ o : Fin 6, (∀ k : Fin 6, o.val ≤ k.val → m.val.testBit k.val = true → o.val + Lib.trailingZeros8 (m.val >>> o.val) ≤ k.val) ∧ ((o.val + Lib.trailingZeros8 (m.val >>> o.val) ≤ 5 ∧ m.val.testBit (o.val + Lib.trailingZeros8 (m.val >>> o.val)) = true) ∨ (o.val + Lib.trailingZeros8 (m.val >>> o.val) = o.val + 8 ∧ ∀ k : Fin 6, o.val ≤ k.val → m.val.testBit k.val = false)) := by decide +kernel
theorem least_of {l : List Blk} {m o : Nat} (hb : Bits l m) (h5 : ∀ y ∈ l, y.2 ≤ 5) (ho : o ≤ 5) (hm : m < 64) : Least l o (o + Lib.trailingZeros8 (m >>> o)) := by
  have h := tz_all ⟨m, hm⟩ ⟨o, by omega⟩
  simp only at h
  refine ⟨by omega, fun y hy hoy => h.1 ⟨y.2, by have := h5 y hy; omega⟩ hoy ((hb y.2).2 ⟨y, hy, rfl⟩), ?_⟩
  rcases h.2 with ⟨_, h2⟩ | ⟨h2, h3⟩
  · exact Or.inl ((hb _).1 h2)
  · refine Or.inr ⟨by omega, fun y hy => ?_⟩
    rcases Nat.lt_or_ge y.2 o with h4 | h4
    · exact h4
    · have := h3 ⟨y.2, by have := h5 y hy; omega⟩ h4
      rw [(hb y.2).2 ⟨y, hy, rfl⟩] at this
      cases this
theorem bits_lt {l : List Blk} {m : Nat} (hb : Bits l m) (h5 : ∀ y ∈ l, y.2 ≤ 5) : m < 64 := by
  rcases Nat.lt_or_ge m 64 with h | h
  · exact h
  · obtain ⟨i, hi, hh⟩ := Nat.exists_ge_and_testBit_of_ge_two_pow (n := 6) (by simpa using h)
    obtain ⟨y, hy, e⟩ := (hb i).1 hh
    have := h5 y hy
    omega

/-- what has been met on the way through the map -/
def Seen (l : List Blk) (left : Lit → Bool) (m : Nat) : Prop :=
  (∀ k, m.testBit k = true → ∃ y ∈ l, y.2 = k) ∧ ∀ y ∈ l, ∀ kl, keyOf Try.prog 68 (keyV (emb y)) = some kl → left kl = false → m.testBit y.2 = true
theorem seen_start {l : List Blk} {D : DataW Unit} (ht : Tells D l) (hw : ∀ y ∈ l, Wf (emb y)) : Seen l (has D) 0 :=
  ⟨fun k h => by simp at h, fun y hy kl hk hf => by rw [((ht _ kl (hw y hy) hk).1).2 ⟨y, hy, rfl⟩] at hf; cases hf⟩
theorem seen_step {l : List Blk} {left : Lit → Bool} {m : Nat} {y : Blk} {kl : Lit} (h : Seen l left m) (hy : y ∈ l) (hk : keyOf Try.prog 68 (keyV (emb y)) = some kl) : Seen l (fun z => left z && !z.sameKey kl) (m ||| 2 ^ y.2) := by
  refine ⟨fun k hb => ?_, fun z hz kz hkz hf => ?_⟩
  · rw [Nat.testBit_or, Nat.testBit_two_pow, Bool.or_eq_true] at hb
    rcases hb with hb | hb
    · exact h.1 k hb
    · exact ⟨y, hy, by simpa using hb⟩
  · rw [Nat.testBit_or, Nat.testBit_two_pow, Bool.or_eq_true]
    simp only [Bool.and_eq_false_iff, Bool.not_eq_false'] at hf
    rcases hf with hf | hf
    · exact Or.inl (h.2 z hz kz hkz hf)
    · have e := WideAt.sameKey_eq hf
      subst e
      have := law.inj hkz hk
      simp only [keyV, Value.agg.injEq] at this
      have e2 : emb z = emb y := by simp at this; exact Prod.ext this.1 this.2
      right
      rw [emb_inj e2]; simp
theorem seen_end {l : List Blk} {left : Lit → Bool} {m : Nat} (h : Seen l left m) (hl : ∀ kl, left kl = false) (hw : ∀ y ∈ l, Wf (emb y)) : Bits l m := fun k => ⟨h.1 k, fun ⟨y, hy, e⟩ => by
  obtain ⟨kl, hk⟩ := key_mk (hw y hy)
  rw [← e]; exact h.2 y hy kl hk (hl kl)⟩
theorem seen_key {l : List Blk} {D : DataW Unit} {x : Pr} {kl : Lit} {d : DataW Unit} (ht : Tells D l) (hx : Wf x) (hk : keyOf Try.prog 68 (keyV x) = some kl) (hat : ∀ zd, D.atKey kl zd = d) : ∃ y ∈ l, emb y = x :=
  ((ht x kl hx hk).1).1 (has_true_of_atKey hat)
theorem key_inv (key : Value) (kl : Lit) (h : keyOf Try.prog 68 key = some kl) : ∃ x : Pr, key = keyV x := by
  obtain ⟨x, hx, _⟩ := key_form h
  exact ⟨x, hx⟩
theorem elem_inv (v : Value) (y : DataW Unit × List MemPlace) (h : plainElem (H := Unit) Try.prog 2 v = some y) : ∃ c : Int, v = .int .i64 c := by
  obtain ⟨c, rfl, _⟩ := plainElem_int_inv underE h
  exact ⟨c, rfl⟩

theorem shr_nat (m o : Nat) : (m : Int) / 2 ^ o = ((m >>> o : Nat) : Int) := by rw [Nat.shiftRight_eq_div_pow]; simp
theorem shr_le (m o : Nat) : m >>> o ≤ m := by rw [Nat.shiftRight_eq_div_pow]; exact Nat.div_le_self _ _
theorem shr_tz (m o : Nat) (hm : m < 256) : Lib.trailingZeros8 (m >>> o) ≤ 8 := Lib.trailingZeros8_le8 ⟨m >>> o, by have := shr_le m o; omega⟩
theorem or_u8 : ∀ m : Fin 64, ∀ k : Fin 6, bits .or .u8 (m.val : Int) ((2 : Int) ^ k.val % 256) = ((m.val ||| 2 ^ k.val : Nat) : Int) := by decide +kernel
theorem or_lt : ∀ m : Fin 64, ∀ k : Fin 6, m.val ||| 2 ^ k.val < 64 := by decide +kernel

set_option maxHeartbeats 4000000 in
set_option maxRecDepth 100000 in
theorem impl_least (n b N : Nat) (l : List Blk) (hl5 : ∀ y ∈ l, y.1 < 64 ∧ y.2 ≤ 5) (o : Nat) (ho : o ≤ 5) (w : World) (hp : Pool w b N l) :
    Calls Try.prog 34 #[.agg #[.int .i64 n, .map (some b)], .int .i64 o] w fun e w' => ∃ r : Nat, e = .returned (.int .i64 r) ∧ Least l o r ∧ r ≤ 13 ∧ Below w.heap.size w w' := by
  have hb := hp.lt
  have hw : ∀ y ∈ l, Wf (emb y) := fun y hy => wf_emb (by have := hl5 y hy; omega) (by have := hl5 y hy; omega)
  obtain ⟨D, hown0, ht⟩ := hp
  have HT : Hid (Tells D l) := ht
  have HW : Hid (∀ y ∈ l, Wf (emb y)) := hw
  have H5 : Hid (∀ y ∈ l, y.1 < 64 ∧ y.2 ≤ 5) := hl5
  have hown : ∀ o : Obj, (w.alloc o).ownsMap Try.prog 68 (plainElem (H := Unit) Try.prog 2) b N D := fun o => hown0.alloc o
  have HTZ : Hid (∀ (x : Int) W, 0 ≤ x → x ≤ 255 → _) := fun x W h0 h1 => impl_tz x W h0 h1
  clear hown0 ht hw hl5
  go_enter Try.func34, Try.ntmps34
  go_wp2_with (first | (at_range; refine wpList_range_own _ rfl _ 58 rfl 68 2 law underM _ b N D rfl (hown _) ?_; intro w0 hrg0 hg0 hs0) | go_in)
  go_frame
  simp at hrg0 hs0
  rw [show (w.alloc (.cells #[.int .i64 n, .map (some b)] 60)).heap.size = w.heap.size + 1 by simp]
  have HB0 : Hid (Below w.heap.size w w0) := ((Below.refl w.heap.size w).alloc (Nat.le_refl _) _).grown hg0 (by simp) (fun k hk => by cases hk)
  clear hg0 hown
  go_loopw [5] (fun t5 wr => ∃ (left : Lit → Bool) (cnt m : Nat), t5 = .int .u8 m ∧ m < 64 ∧ Hid (wr.ranges Try.prog 68 (plainElem (H := Unit) Try.prog 2) b (w.heap.size + 1) N D left cnt) ∧ Hid (Seen l left m) ∧ Hid (Below w.heap.size w wr)) (fun _ wr => wr.rangeLeft b (w.heap.size + 1))
  case atStart => exact ⟨_, _, 0, rfl, by omega, hrg0, seen_start HT.out HW.out, HB0.out⟩
  case round =>
    obtain ⟨left, cnt, m, rfl, hm, HRG, HSN, HBW⟩ := hrel
    go_wp2_with (first | (at_next; refine wpList_next_ranges _ rfl _ rfl 68 law (plainElem (H := Unit) Try.prog 2) keyV (Value.int .i64) key_inv elem_inv b (w.heap.size + 1) N D left cnt rfl HRG.out ?_ ?_) | go_in)
    · intro _ hl0
      have HBT : Hid (Bits l m) := seen_end HSN.out hl0 HW.out
      have HLO : Hid (Least l o (o + Lib.trailingZeros8 (m >>> o))) := least_of HBT.out (fun y hy => (H5.out y hy).2) ho hm
      have HTZ2 : Hid (∀ W, _) := fun W => HTZ.out ((m : Int) / 2 ^ o) W (by rw [shr_nat m o]; exact Int.natCast_nonneg _) (by rw [shr_nat m o]; have := shr_le m o; generalize m >>> o = z at *; omega)
      have ht8 := shr_tz m o (by omega)
      rw [shr_nat m o, Int.toNat_natCast] at HTZ2
      have HSH : Hid (((m >>> o : Nat) : Int) = (m : Int) / 2 ^ o) := (shr_nat m o).symm
      generalize Lib.trailingZeros8 (m >>> o) = t at *
      rw [HSH.out] at HTZ2
      clear hrg0 hs0 HRG HSN hl0 HTZ
      go_wp2_with fail
      refine Calls.mono (HTZ2.out _) ?_
      rintro e w2 ⟨rfl, rfl⟩
      go_wp2
      go_ret
      exact ⟨o + t, ret_int (by push_cast; rfl), HLO.out, by omega, HBW.out⟩
    · intro xa xo cc kl yd yp w1 cnt1 hkey hlk hv hat hrg1 hlt hg1 hs1 hen
      obtain ⟨x', hx', hwf⟩ := key_form hkey
      obtain ⟨y, hy, he⟩ := seen_key HT.out (x := (xa, xo)) (by simp at hx'; rw [show (xa, xo) = x' from Prod.ext hx'.1 hx'.2]; exact hwf) hkey hat
      have e1 : xa = (y.1 : Int) := (congrArg Prod.fst he).symm
      have e2 : xo = (y.2 : Int) := (congrArg Prod.snd he).symm
      subst e1 e2
      have hy5 := (H5.out y hy).2
      have HSN2 : Hid (Seen l (fun z => left z && !z.sameKey kl) (m ||| 2 ^ y.2)) := seen_step HSN.out hy hkey
      have HRG2 : Hid (∀ ob : Obj, (w1.alloc ob).ranges Try.prog 68 (plainElem (H := Unit) Try.prog 2) b (w.heap.size + 1) N D (fun z => left z && !z.sameKey kl) cnt1) := fun ob => hrg1.alloc ob
      have HLT : Hid (cnt1 < cnt) := hlt
      have HB1 : Hid (∀ ob : Obj, Below w.heap.size w (w1.alloc ob)) := fun ob => (HBW.out.grown hg1 HBW.out.size (fun k hk => by cases hk; omega)).alloc (by rw [hs1]; exact HBW.out.size) ob
      simp only [keyV] at hen
      clear hrg0 hs0 hv hat hrg1 hg1 hlk hwf hx' he hkey hlt
      have HOR : Hid (bits .or .u8 (m : Int) ((2 : Int) ^ y.2 % 256) = ((m ||| 2 ^ y.2 : Nat) : Int)) := or_u8 ⟨m, hm⟩ ⟨y.2, by omega⟩
      have hm2 : m ||| 2 ^ y.2 < 64 := or_lt ⟨m, hm⟩ ⟨y.2, by omega⟩
      have HRL : Hid (∀ ob : Obj, (w1.alloc ob).rangeLeft b (w.heap.size + 1) < wr.rangeLeft b (w.heap.size + 1)) := fun ob => by rw [(HRG2.out ob).left_eq, HRG.out.left_eq]; exact HLT.out
      go_wp2_with fail
      go_roundw
      case rel => exact ⟨_, _, m ||| 2 ^ y.2, by rw [HOR.out], hm2, HRG2.out _, HSN2.out, HB1.out _⟩
      case measure => exact HRL.out _
end Go.Proofs.Ytcokchfedaoccab.bpool
