/-
  The walk of readBits, a loop of goto from state to state: what the bytes tell, or a fault with its code.
-/
import Derived.Test.YtjiihkdnpblilaaDoorAs
import Derived.Test.YtjiihkdnpblilaaDoorJumps
import Derived.Test.YtjiihkdnpblilaaDoorDec
import Derived.WalkLawsBesides
import Derived.WalkMore
import Derived.Deep.QuietTactic
import Derived.BigQuiet
namespace Go.Proofs.YtjiihkdnpblilaaDoor.get
open Go.RowKit
open Go.Proofs.YtjiihkdnpblilaaDoor

/-- a fault of a code -/
def errV (c : Int) : Value := if c = 0 then .nilIface else .iface 54 (.agg #[.int .i64 c])
/-- what readBits tells -/
def readOut (R : Nat × Nat × Int) : Value := .tuple #[.int .u64 (R.1 : Int), .int .i64 (R.2.1 : Int), errV R.2.2]
theorem out_fault (c : Int) (hc : c ≠ 0) : readOut (0, 0, c) = .tuple #[.int .u64 0, .int .i64 0, .iface 54 (.agg #[.int .i64 c])] := by
  simp [readOut, errV, hc]
theorem out_good (u p : Nat) : readOut (u, p, 0) = .tuple #[.int .u64 (u : Int), .int .i64 (p : Int), .nilIface] := by
  simp [readOut, errV]

/-- what holds at a jump: 0 wrong, 1 more, 2 last -/
def JB (s : ByteArray) (R : Nat × Nat × Int) (w : World) : Nat → Act → World → Prop
  | 0, a, w' => ∃ (c : Int) (y0 y1 y2 y3 y4 y5 y6 y7 y8 y9 y11 y12 y13 y14 y15 y16 y17 y18 y19 y20 y21 y22 y23 y24 y25 y26 y27 y28 y29 y30 y31 y32 y33 y34 y35 y36 y37 y38 y39 y40 y41 y42 y43 y44 y45 y46 y47 y48 : Value), a = { tmps := #[y0, y1, y2, y3, y4, y5, y6, y7, y8, y9, .pointer (some ⟨w.heap.size, 0, none⟩), y11, y12, y13, y14, y15, y16, y17, y18, y19, y20, y21, y22, y23, y24, y25, y26, y27, y28, y29, y30, y31, y32, y33, y34, y35, y36, y37, y38, y39, y40, y41, y42, y43, y44, y45, y46, y47, y48], defers := [] } ∧ w' = w.alloc (.cells #[.int .i64 c] 54) ∧
      Hid (readOut R = .tuple #[.int .u64 0, .int .i64 0, .iface 54 (.agg #[.int .i64 c])])
  | 1, a, w' => ∃ (p u t k : Nat) (x9 x11 x12 x13 x14 x15 x16 x17 x18 x19 x20 x21 x22 x23 x24 x25 x26 x27 x28 x29 x30 x31 x32 x33 x34 x35 x36 x37 x38 x39 x40 x41 x42 x43 x44 x45 x46 x47 x48 : Value), a = { tmps := #[.string s, .int .i64 (p : Int), undef, undef, .int .u64 0, .int .i64 0, .nilIface, .int .u64 (u : Int), .int .u64 (t : Int), x9, .pointer (some ⟨w.heap.size, 0, none⟩), x11, x12, x13, x14, x15, x16, x17, x18, x19, x20, x21, x22, x23, x24, x25, x26, x27, x28, x29, x30, x31, x32, x33, x34, x35, x36, x37, x38, x39, x40, x41, x42, x43, x44, x45, x46, x47, x48], defers := [] } ∧ w' = w.alloc (.cells #[.int .i64 3] 54) ∧
      k ≤ 9 ∧ (p : Int) ≤ 9223372036854775807 ∧ Hid (t = 7 * k) ∧ t ≤ 63 ∧ Hid (dec.At R s p k u)
  | 2, a, w' => ∃ (p u t c : Nat) (x11 x12 x13 x14 x15 x16 x17 x18 x19 x20 x21 x22 x23 x24 x25 x26 x27 x28 x29 x30 x31 x32 x33 x34 x35 x36 x37 x38 x39 x40 x41 x42 x43 x44 x45 x46 x47 x48 : Value), a = { tmps := #[.string s, .int .i64 (p : Int), undef, undef, .int .u64 0, .int .i64 0, .nilIface, .int .u64 (u : Int), .int .u64 (t : Int), .int .u8 (c : Int), .pointer (some ⟨w.heap.size, 0, none⟩), x11, x12, x13, x14, x15, x16, x17, x18, x19, x20, x21, x22, x23, x24, x25, x26, x27, x28, x29, x30, x31, x32, x33, x34, x35, x36, x37, x38, x39, x40, x41, x42, x43, x44, x45, x46, x47, x48], defers := [] } ∧ w' = w.alloc (.cells #[.int .i64 3] 54) ∧
      p ≤ 8001 ∧ c ≤ 255 ∧ t ≤ 63 ∧ Hid (c = 0 ∧ 0 < t → readOut R = .tuple #[.int .u64 0, .int .i64 0, .iface 54 (.agg #[.int .i64 3])]) ∧
      Hid (¬ (c = 0 ∧ 0 < t) → readOut R = .tuple #[.int .u64 (u : Int), .int .i64 (p : Int), .nilIface])
  | _, _, _ => False
/-- each pass lowers it -/
def MU : Nat → Act → World → Nat
  | 0, _, _ => 1
  | 1, a, _ => 1000 - (intOf (a.tmps.getD 8 undef)).toNat
  | _, _, _ => 10

theorem jb_labels (s : ByteArray) (R : Nat × Nat × Int) (w : World) : ∀ l a w', JB s R w l a w' → l = 0 ∨ l = 1 ∨ l = 2
  | 0, _, _, _ => Or.inl rfl
  | 1, _, _, _ => Or.inr (Or.inl rfl)
  | 2, _, _, _ => Or.inr (Or.inr rfl)
  | _ + 3, _, _, h => h.elim

set_option maxRecDepth 100000 in
set_option maxHeartbeats 4000000 in
theorem bits_num (s : ByteArray) (p0 : Nat) (w : World) (hs : s.size ≤ 8000) (hp : (p0 : Int) ≤ 9223372036854775807) :
    Calls Tryd.prog 23 #[.string s, .int .i64 p0] w fun e w' => e = .returned (readOut (dec.decN 10 s p0 0 0)) ∧ Below w.heap.size w w' := by
  have H0 := dec.at0 s p0
  generalize dec.decN 10 s p0 0 0 = R at H0 ⊢
  have HH : Hid _ := H0
  clear H0
  go_enter Tryd.func23, Tryd.ntmps23
  go_wp2
  refine jumps.wp_scope_three (JB s R w) MU rfl rfl rfl (jb_labels s R w) ?_ ?_ ?_ ?_
  · -- the first pass
    by_cases hlt : p0 < s.size
    · have hx : s[p0].toNat < 256 := s[p0].toNat_lt
      have hx2 : (s[p0].toNat : Int) ≤ 255 := by omega
      obtain ⟨v, hv⟩ : ∃ v, v = 0 + s[p0].toNat % 128 * 2 ^ (7 * 0) := ⟨_, rfl⟩
      have hX := dec.or_of 0 s[p0].toNat 0 0 rfl (by omega) hx (by omega) (by decide)
      rw [← hv] at hX
      simp at hX
      by_cases h128 : (128 : Int) ≤ (s[p0].toNat : Int)
      · have H2 : Hid (dec.At R s (p0 + 1) (0 + 1) v) := by rw [hv]; exact dec.at_more HH.out hlt (by omega) (by omega)
        clear HH hv
        go_wp2
        go_step3
        go_wp2
        go_step3
        exact ⟨p0 + 1, v, 7, 1, _, _, _, _, _, _, _, _, _, _, _, _, _, _, _, _, _, _, _, _, _, _, _, _, _, _, _, _, _, _, _, _, _, _, _, _, _, _, _, rfl, rfl, by omega, by omega, rfl, by omega, H2.out⟩
      · have HR : Hid (readOut R = .tuple #[.int .u64 (v : Int), .int .i64 ((p0 + 1 : Nat) : Int), .nilIface]) := by
          rw [dec.at_last HH.out hlt (by omega) (by omega) (by omega), hv, Nat.mod_eq_of_lt (by omega : s[p0].toNat < 128), out_good]; exact rfl
        clear HH hv
        go_wp2
        go_step3
        go_wp2
        go_step3
        exact ⟨p0 + 1, v, 0, s[p0].toNat, _, _, _, _, _, _, _, _, _, _, _, _, _, _, _, _, _, _, _, _, _, _, _, _, _, _, _, _, _, _, _, _, _, _, _, _, _, _, rfl, rfl, by omega, by omega, by omega, fun h => absurd h.2 (by omega), fun _ => HR.out⟩
    · have HR : Hid (readOut R = .tuple #[.int .u64 0, .int .i64 0, .iface 54 (.agg #[.int .i64 4])]) := by
        rw [dec.at_short HH.out hlt, out_fault 4 (by omega)]; exact rfl
      clear HH
      go_wp2
      go_step3
      go_wp2
      go_step3
      exact ⟨4, _, _, _, _, _, _, _, _, _, _, _, _, _, _, _, _, _, _, _, _, _, _, _, _, _, _, _, _, _, _, _, _, _, _, _, _, _, _, _, _, _, _, _, _, _, _, _, _, rfl, rfl, HR.out⟩
  · -- wrong
    rintro a w' ⟨c, y0, y1, y2, y3, y4, y5, y6, y7, y8, y9, y11, y12, y13, y14, y15, y16, y17, y18, y19, y20, y21, y22, y23, y24, y25, y26, y27, y28, y29, y30, y31, y32, y33, y34, y35, y36, y37, y38, y39, y40, y41, y42, y43, y44, y45, y46, y47, y48, rfl, rfl, H⟩
    clear HH
    go_wp2
    go_quiet (fail)
    go_wp2
    simp only [jumps.Jumps]
    go_ret3
    exact ⟨by rw [H.out]; rfl, below_drewN ((Below.refl _ _).alloc (Nat.le_refl _) _) _⟩
  · -- more
    clear HH
    rintro a w' ⟨p, u, t, k, x9, x11, x12, x13, x14, x15, x16, x17, x18, x19, x20, x21, x22, x23, x24, x25, x26, x27, x28, x29, x30, x31, x32, x33, x34, x35, x36, x37, x38, x39, x40, x41, x42, x43, x44, x45, x46, x47, x48, rfl, rfl, hk, hpp, HT, ht, H⟩
    by_cases hlt : p < s.size
    · have hx : s[p].toNat < 256 := s[p].toNat_lt
      have hx2 : (s[p].toNat : Int) ≤ 255 := by omega
      by_cases hbig : k = 9 ∧ 1 < s[p].toNat
      · have HR : Hid (readOut R = .tuple #[.int .u64 0, .int .i64 0, .iface 54 (.agg #[.int .i64 3])]) := by
          rw [dec.at_big H.out hlt hbig.1 hbig.2, out_fault 3 (by omega)]; exact rfl
        have e63 : ((t : Int) == 63) = true := by have := HT.out; simp; omega
        have h1 : (1 : Int) < (s[p].toNat : Int) := by omega
        clear H hbig HT
        go_wp2
        go_step3
        exact ⟨⟨3, _, _, _, _, _, _, _, _, _, _, _, _, _, _, _, _, _, _, _, _, _, _, _, _, _, _, _, _, _, _, _, _, _, _, _, _, _, _, _, _, _, _, _, _, _, _, _, _, rfl, rfl, HR.out⟩, by simp [MU, intOf]; omega⟩
      obtain ⟨v, hv⟩ : ∃ v, v = u + s[p].toNat % 128 * 2 ^ (7 * k) := ⟨_, rfl⟩
      have hc9 : k = 9 → s[p].toNat ≤ 1 := by omega
      have hX := dec.or_of k s[p].toNat u t HT.out hk hx hc9 H.out.room
      have hvl := dec.new_lt k (s[p].toNat % 128) u hk (by omega) (fun e => by have := hc9 e; omega) H.out.room
      rw [← hv] at hX hvl
      have hv2 : (v : Int) ≤ 18446744073709551615 := by omega
      clear hvl
      have e9 : (k < 9 ∧ ((t : Int) == 63) = false ∧ t ≤ 56) ∨ (((t : Int) == 63) = true ∧ (s[p].toNat : Int) ≤ 1) := by
        have := HT.out
        by_cases e : k = 9
        · right; exact ⟨by simp; omega, by have := hc9 e; omega⟩
        · left; exact ⟨by omega, by simp; omega, by omega⟩
      by_cases h128 : (128 : Int) ≤ (s[p].toNat : Int)
      · obtain ⟨h9, e9', ht2⟩ : k < 9 ∧ ((t : Int) == 63) = false ∧ t ≤ 56 := by
          rcases e9 with e | ⟨_, e⟩
          · exact e
          · omega
        have H2 : Hid (dec.At R s (p + 1) (k + 1) v) := by rw [hv]; exact dec.at_more H.out hlt h9 (by omega)
        have HT2 : Hid (t + 7 = 7 * (k + 1)) := by rw [HT.out]; exact rfl
        clear H hv hbig hc9 e9 HT
        go_wp2
        go_step3
        exact ⟨⟨p + 1, v, t + 7, k + 1, _, _, _, _, _, _, _, _, _, _, _, _, _, _, _, _, _, _, _, _, _, _, _, _, _, _, _, _, _, _, _, _, _, _, _, _, _, _, _, rfl, rfl, by omega, by omega, HT2, by omega, H2⟩, by simp [MU, intOf]; omega⟩
      · have HRs : Hid (s[p].toNat = 0 ∧ 0 < t → readOut R = .tuple #[.int .u64 0, .int .i64 0, .iface 54 (.agg #[.int .i64 3])]) := by
          intro hz
          have := HT.out
          rw [dec.at_zero H.out hlt (by omega) hz.1, out_fault 3 (by omega)]
        have HRg : Hid (¬ (s[p].toNat = 0 ∧ 0 < t) → readOut R = .tuple #[.int .u64 (v : Int), .int .i64 ((p + 1 : Nat) : Int), .nilIface]) := by
          intro hz
          have := HT.out
          rw [dec.at_last H.out hlt hc9 (by omega) (by omega), hv, Nat.mod_eq_of_lt (by omega : s[p].toNat < 128), out_good]
        clear H hv hbig hc9 HT
        rcases e9 with ⟨h9, e9, ht2⟩ | ⟨e9, h9⟩
        all_goals
          go_wp2
          go_step3
          exact ⟨⟨p + 1, v, t, s[p].toNat, _, _, _, _, _, _, _, _, _, _, _, _, _, _, _, _, _, _, _, _, _, _, _, _, _, _, _, _, _, _, _, _, _, _, _, _, _, _, rfl, rfl, by omega, by omega, by omega, HRs, HRg⟩, by simp [MU, intOf]; omega⟩
    · have HR : Hid (readOut R = .tuple #[.int .u64 0, .int .i64 0, .iface 54 (.agg #[.int .i64 4])]) := by
        rw [dec.at_short H.out hlt, out_fault 4 (by omega)]; exact rfl
      clear H HT
      go_wp2
      go_step3
      exact ⟨⟨4, _, _, _, _, _, _, _, _, _, _, _, _, _, _, _, _, _, _, _, _, _, _, _, _, _, _, _, _, _, _, _, _, _, _, _, _, _, _, _, _, _, _, _, _, _, _, _, _, rfl, rfl, HR.out⟩, by simp [MU, intOf]; omega⟩
  · -- last
    clear HH
    rintro a w' ⟨p, u, t, c, x11, x12, x13, x14, x15, x16, x17, x18, x19, x20, x21, x22, x23, x24, x25, x26, x27, x28, x29, x30, x31, x32, x33, x34, x35, x36, x37, x38, x39, x40, x41, x42, x43, x44, x45, x46, x47, x48, rfl, rfl, hpp, hc, ht, HRs, HRg⟩
    by_cases hz : c = 0 ∧ 0 < t
    · have HR : Hid _ := HRs.out hz
      have e0 : ((c : Int) == 0) = true := by simp; omega
      have ht0 : (0 : Int) < (t : Int) := by omega
      clear hz HRs HRg
      go_wp2
      go_step3
      exact ⟨⟨3, _, _, _, _, _, _, _, _, _, _, _, _, _, _, _, _, _, _, _, _, _, _, _, _, _, _, _, _, _, _, _, _, _, _, _, _, _, _, _, _, _, _, _, _, _, _, _, _, rfl, rfl, HR⟩, by simp [MU]⟩
    · have HR : Hid _ := HRg.out hz
      have e0 : ((c : Int) == 0) = false ∨ (((c : Int) == 0) = true ∧ t ≤ 0) := by
        by_cases e : c = 0
        · right; exact ⟨by simp; omega, by omega⟩
        · left; simp; omega
      clear hz HRs HRg
      rcases e0 with e0 | ⟨e0, ht0⟩
      all_goals
        go_wp2
        simp only [jumps.Jumps]
        go_ret3
        exact ⟨by rw [HR.out]; rfl, (Below.refl _ _).alloc (Nat.le_refl _) _⟩
end Go.Proofs.YtjiihkdnpblilaaDoor.get
