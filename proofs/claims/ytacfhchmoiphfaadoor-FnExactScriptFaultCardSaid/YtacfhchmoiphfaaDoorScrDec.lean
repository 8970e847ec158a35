/-
  The walk of the specification's l01Dec (a number in decimal digits), at every number of 64 bits. No condition.
-/
import Derived.Test.YtacfhchmoiphfaaDoorRows
import Derived.WalkKit
import Derived.ProofKit
import Derived.WalkLawsBesides
import Derived.RegionTactic
import Derived.ChangeAlike
import Derived.Deep.OwnRows
import Derived.Below
import Derived.Lib.ItoaNum
import Derived.Lib.ItoaMem
import Derived.Lib.ItoaLen
namespace Go.Proofs.YtacfhchmoiphfaaDoor.scr
open Go.RowKit Go.Deep
set_option linter.unusedVariables false
set_option maxRecDepth 100000

def str (l : List UInt8) : Value := .string ⟨l.toArray⟩
theorem one_byte (W : World) (c : Int) (h0 : 0 ≤ c) (h1 : c < 256) : (convert 22 9 (.slice (some ⟨W.heap.size, 0, none⟩) 1 1)).run Tryd.prog (W.alloc (.cells #[.int .u8 c] 5)) = .ok (str [UInt8.ofNat c.toNat]) (W.alloc (.cells #[.int .u8 c] 5)) := by
  have h : (W.alloc (.cells #[.int .u8 c] 5)).cell? ⟨W.heap.size, 0, none⟩ = some (.int .u8 c) := by
    rw [cell_of_row _ W.heap.size 0 #[.int .u8 c] 5 (0, 0) (MapKept.heap_alloc W _).1]; rfl
  have := run_convert_bytes_arg (P := Tryd.prog) (W.alloc (.cells #[.int .u8 c] 5)) 22 5 Tryd.underlying22 Tryd.underlying5 W.heap.size 0 1 1 [c] rfl (fun i hi => by
    obtain rfl : i = 0 := by omega
    simp only [Nat.add_zero]; exact h) 9 Tryd.underlying9
  rw [this]
  rfl
theorem below_one (w : World) (o : Obj) : Below w.heap.size w (w.alloc o) := (Below.refl _ _).alloc (Nat.le_refl _) _
theorem below_tr {w a b : World} (h : Below w.heap.size w a) (k : Below a.heap.size a b) : Below w.heap.size w b := h.trans (k.mono h.size)
theorem dec_small {m : Nat} (h : m < 10) : Lib.decDigits m = [UInt8.ofNat (48 + m)] := by rw [Lib.decDigits, dif_pos h]
theorem dec_big {m : Nat} (h : ¬ m < 10) : Lib.decDigits m = Lib.decDigits (m / 10) ++ [UInt8.ofNat (48 + m % 10)] := by rw [Lib.decDigits, dif_neg h]
/-- one digit more is laid ahead of what there is -/
theorem dec_step {u m : Nat} {r : List UInt8} (h0 : 0 < m) (H : (m = 0 → r = Lib.decDigits u) ∧ (0 < m → Lib.decDigits u = Lib.decDigits m ++ r)) : (m / 10 = 0 → UInt8.ofNat (48 + m % 10) :: r = Lib.decDigits u) ∧ (0 < m / 10 → Lib.decDigits u = Lib.decDigits (m / 10) ++ (UInt8.ofNat (48 + m % 10) :: r)) := by
  have h := H.2 h0
  refine ⟨fun h1 => ?_, fun h1 => ?_⟩
  · have h2 : m < 10 := by omega
    rw [h, dec_small h2, Nat.mod_eq_of_lt h2]; rfl
  · rw [h, dec_big (by omega), List.append_assoc]; rfl
/-- how long the rest may be -/
theorem len_le {u : Nat} (hu : (u : Int) ≤ 9223372036854775808) {m : Nat} {r : List UInt8} (H : (m = 0 → r = Lib.decDigits u) ∧ (0 < m → Lib.decDigits u = Lib.decDigits m ++ r)) : r.length ≤ 20 := by
  have hd : (Lib.decDigits u).length ≤ 20 := by
    rw [Lib.decDigits_length]
    exact Lib.nDigits_le20 u (by omega)
  by_cases h0 : m = 0
  · rw [H.1 h0]; exact hd
  · have := H.2 (by omega)
    rw [this, List.length_append] at hd
    omega
theorem dig_byte (m : Nat) : UInt8.ofNat (48 + (m : Int) % 10).toNat = UInt8.ofNat (48 + m % 10) := by congr 1
theorem push_str (c : UInt8) (r : List UInt8) : (⟨[c].toArray⟩ : ByteArray) ++ ⟨r.toArray⟩ = ⟨(c :: r).toArray⟩ := by
  apply ByteArray.ext
  simp
theorem ret_of {a b : Value} (h : b = a) : Ending.returned a = Ending.returned b := by rw [h]
set_option maxHeartbeats 2000000 in
theorem dec_pos (u : Nat) (hu : (u : Int) ≤ 9223372036854775807) (hu0 : 0 < u) (w : World) : Calls Tryd.prog 40 #[.int .i64 u] w fun e w' => e = .returned (str (Lib.decDigits u)) ∧ Below w.heap.size w w' := by
  have HU : Hid ((u : Int) ≤ 9223372036854775808) := by show _ ≤ _; omega
  go_enter Tryd.func40, Tryd.ntmps40
  go_wp2
  go_loopw [0, 4, 5] (fun tn to td wr => ∃ (m : Nat) (s : ByteArray), tn = .int .i64 m ∧ to = .string s ∧ m ≤ u ∧ s.size ≤ 20 ∧ Hid (∃ r : List UInt8, s = ⟨r.toArray⟩ ∧ ((m = 0 → r = Lib.decDigits u) ∧ (0 < m → Lib.decDigits u = Lib.decDigits m ++ r))) ∧ Hid (Below w.heap.size w wr)) (fun tn _ _ _ => (intOf tn).toNat)
  case atStart => exact ⟨u, _, rfl, rfl, by omega, by decide, ⟨[], rfl, fun h => by omega, fun _ => by simp⟩, Below.refl _ _⟩
  case round =>
    obtain ⟨m, s, rfl, rfl, hm, hr, H, HB⟩ := hrel
    by_cases h0 : 0 < m
    · have hcv := one_byte wr (48 + (m : Int) % 10) (by omega) (by omega)
      obtain ⟨s2, hs2⟩ : ∃ s2 : ByteArray, s2 = (⟨[UInt8.ofNat (48 + (m : Int) % 10).toNat].toArray⟩ : ByteArray) := ⟨_, rfl⟩
      have H2 : Hid (∃ r : List UInt8, s2 ++ s = ⟨r.toArray⟩ ∧ ((m / 10 = 0 → r = Lib.decDigits u) ∧ (0 < m / 10 → Lib.decDigits u = Lib.decDigits (m / 10) ++ r))) := by
        obtain ⟨r, hr, hx⟩ := H.out
        refine ⟨_, ?_, dec_step h0 hx⟩
        rw [hs2, hr, dig_byte, push_str]
      have hz : (s2 ++ s).size ≤ 20 := by
        obtain ⟨r, hr, hx⟩ := H2.out
        rw [hr]
        exact len_le HU.out hx
      have hz2 : s2.size = 1 := by rw [hs2]; rfl
      have hcv2 : (convert 22 9 (.slice (some ⟨wr.heap.size, 0, none⟩) 1 1)).run Tryd.prog (wr.alloc (.cells #[.int .u8 (48 + (m : Int) % 10)] 5)) = .ok (.string s2) (wr.alloc (.cells #[.int .u8 (48 + (m : Int) % 10)] 5)) := by rw [hs2]; exact hcv
      have HB2 : Hid (Below w.heap.size w (wr.alloc (.cells #[.int .u8 (48 + (m : Int) % 10)] 5))) := below_tr HB.out (below_one _ _)
      clear hcv hs2 H
      go_wp2
      go_roundw
      case rel => exact ⟨m / 10, _, by go_num, rfl, by omega, hz, H2.out, HB2.out⟩
      case measure => simp [intOf]; omega
    · obtain rfl : m = 0 := by omega
      have HE : Hid (str (Lib.decDigits u) = .string s) := by
        obtain ⟨r, hr, hx⟩ := H.out
        rw [Hid, hr, str, hx.1 rfl]
      clear H
      go_wp2
      go_ret
      exact ⟨ret_of HE.out, HB.out⟩
set_option maxHeartbeats 2000000 in
theorem dec_neg (u : Nat) (hu : (u : Int) ≤ 9223372036854775808) (hu0 : 0 < u) (w : World) : Calls Tryd.prog 40 #[.int .i64 (-(u : Int))] w fun e w' => e = .returned (str (45 :: Lib.decDigits u)) ∧ Below w.heap.size w w' := by
  have HU : Hid ((u : Int) ≤ 9223372036854775808) := hu
  go_enter Tryd.func40, Tryd.ntmps40
  go_wp2
  go_loopw [0, 4, 5] (fun tn to td wr => ∃ (m : Nat) (s : ByteArray), tn = .int .i64 (-(m : Int)) ∧ to = .string s ∧ m ≤ u ∧ s.size ≤ 20 ∧ Hid (∃ r : List UInt8, s = ⟨r.toArray⟩ ∧ ((m = 0 → r = Lib.decDigits u) ∧ (0 < m → Lib.decDigits u = Lib.decDigits m ++ r))) ∧ Hid (Below w.heap.size w wr)) (fun tn _ _ _ => (-(intOf tn)).toNat)
  case atStart => exact ⟨u, _, rfl, rfl, by omega, by decide, ⟨[], rfl, fun h => by omega, fun _ => by simp⟩, Below.refl _ _⟩
  case round =>
    obtain ⟨m, s, rfl, rfl, hm, hr, H, HB⟩ := hrel
    by_cases h0 : 0 < m
    · obtain ⟨s2, hs2⟩ : ∃ s2 : ByteArray, s2 = (⟨[UInt8.ofNat (48 + (m : Int) % 10).toNat].toArray⟩ : ByteArray) := ⟨_, rfl⟩
      have H2 : Hid (∃ r : List UInt8, s2 ++ s = ⟨r.toArray⟩ ∧ ((m / 10 = 0 → r = Lib.decDigits u) ∧ (0 < m / 10 → Lib.decDigits u = Lib.decDigits (m / 10) ++ r))) := by
        obtain ⟨r, hr, hx⟩ := H.out
        refine ⟨_, ?_, dec_step h0 hx⟩
        rw [hs2, hr, dig_byte, push_str]
      have hz : (s2 ++ s).size ≤ 20 := by
        obtain ⟨r, hr, hx⟩ := H2.out
        rw [hr]
        exact len_le HU.out hx
      have hz2 : s2.size = 1 := by rw [hs2]; rfl
      by_cases hd : 0 < (m : Int) % 10
      · have hcv := one_byte wr (48 + (m : Int) % 10) (by omega) (by omega)
        have hcv2 : (convert 22 9 (.slice (some ⟨wr.heap.size, 0, none⟩) 1 1)).run Tryd.prog (wr.alloc (.cells #[.int .u8 (48 + (m : Int) % 10)] 5)) = .ok (.string s2) (wr.alloc (.cells #[.int .u8 (48 + (m : Int) % 10)] 5)) := by rw [hs2]; exact hcv
        have HB2 : Hid (Below w.heap.size w (wr.alloc (.cells #[.int .u8 (48 + (m : Int) % 10)] 5))) := below_tr HB.out (below_one _ _)
        clear hcv hs2 H
        go_wp2
        go_roundw
        case rel => exact ⟨m / 10, _, by go_num, rfl, by omega, hz, H2.out, HB2.out⟩
        case measure => simp [intOf]; omega
      · have he : 48 + -((m : Int) % 10) = 48 + (m : Int) % 10 := by omega
        have hcv := one_byte wr (48 + -((m : Int) % 10)) (by omega) (by omega)
        have hcv2 : (convert 22 9 (.slice (some ⟨wr.heap.size, 0, none⟩) 1 1)).run Tryd.prog (wr.alloc (.cells #[.int .u8 (48 + -((m : Int) % 10))] 5)) = .ok (.string s2) (wr.alloc (.cells #[.int .u8 (48 + -((m : Int) % 10))] 5)) := by rw [hs2, ← he]; exact hcv
        have HB2 : Hid (Below w.heap.size w (wr.alloc (.cells #[.int .u8 (48 + -((m : Int) % 10))] 5))) := below_tr HB.out (below_one _ _)
        clear hcv hs2 H he
        go_wp2
        go_roundw
        case rel => exact ⟨m / 10, _, by go_num, rfl, by omega, hz, H2.out, HB2.out⟩
        case measure => simp [intOf]; omega
    · obtain rfl : m = 0 := by omega
      have HE : Hid (str (45 :: Lib.decDigits u) = .string ((⟨#[45]⟩ : ByteArray) ++ s)) := by
        obtain ⟨r, hr, hx⟩ := H.out
        have h1 := push_str 45 r
        rw [Hid, hr, str, ← hx.1 rfl, ← h1]
      clear H
      go_wp2
      go_ret
      exact ⟨ret_of HE.out, HB.out⟩
/-- a number in decimal digits, whatever it is -/
theorem spec_dec (n : Int) (h0 : -9223372036854775808 ≤ n) (h1 : n ≤ 9223372036854775807) (w : World) : Calls Tryd.prog 40 #[.int .i64 n] w fun e w' => e = .returned (str (Lib.itoa n)) ∧ Below w.heap.size w w' := by
  rcases Int.lt_trichotomy n 0 with h | rfl | h
  · obtain ⟨u, rfl⟩ : ∃ u : Nat, n = -(u : Int) := ⟨n.natAbs, by omega⟩
    rw [Lib.itoa_neg u (by omega)]
    exact dec_neg u (by omega) (by omega) w
  · have e : str (Lib.itoa 0) = .string ⟨#[48]⟩ := by
      have : Lib.itoa 0 = [48] := by
        have := Lib.itoa_nonneg 0
        rw [show ((0 : Nat) : Int) = 0 from rfl] at this
        rw [this, dec_small (by decide)]; rfl
      rw [this]; rfl
    rw [e]
    go_enter Tryd.func40, Tryd.ntmps40
    go_wp2
    go_ret
    exact ⟨rfl, Below.refl _ _⟩
  · obtain ⟨u, rfl⟩ : ∃ u : Nat, n = u := ⟨n.toNat, by omega⟩
    rw [Lib.itoa_nonneg]
    exact dec_pos u (by omega) (by omega) w
end Go.Proofs.YtacfhchmoiphfaaDoor.scr
