/-
  The walks of NameRight, the specification's and the program's: each answers true just where the text is a name. No condition but that the text is one that can be read.
-/
import Derived.Test.YtjiihkdnpblilaeRows
import Derived.WalkKit
import Derived.ProofKit
namespace Go.Proofs.Ytjiihkdnpblilae.names
open Go.RowKit

def OkAt (i : Nat) (c : Int) : Prop := (97 ≤ c ∧ c ≤ 122) ∨ (1 ≤ i ∧ ((48 ≤ c ∧ c ≤ 57) ∨ c = 95))
def NameP (s : ByteArray) : Prop := 1 ≤ s.size ∧ s.size ≤ 20 ∧ ∀ i (h : i < s.size), OkAt i (s[i].toNat)

/-- the answer is true just where the text is a name -/
def Says (s : ByteArray) (e : Ending) : Prop := ∃ b, e = .returned (.bool b) ∧ (b = true ↔ NameP s)

theorem upto_step (s : ByteArray) (k : Nat) (hk : k < s.size) (h : ∀ i (h : i < s.size), i < k → OkAt i (s[i].toNat)) (hc : OkAt k (s[k].toNat)) :
    ∀ i (h : i < s.size), i < k + 1 → OkAt i (s[i].toNat) := by
  intro i hi hlt
  by_cases e : i = k
  · subst e; exact hc
  · exact h i hi (by omega)

theorem cases_of (k : Nat) (c : Int) :
    (97 ≤ c ∧ c ≤ 122) ∨ (1 ≤ k ∧ ((k : Int) == 0) = false ∧ 48 ≤ c ∧ c ≤ 57) ∨ (1 ≤ k ∧ ((k : Int) == 0) = false ∧ (c != 95) = false ∧ 95 ≤ c ∧ c ≤ 95) ∨
    (k < 1 ∧ ((k : Int) == 0) = true ∧ 122 < c) ∨ (1 ≤ k ∧ ((k : Int) == 0) = false ∧ (c != 95) = true ∧ decide (c ≤ 57) = false ∧ 122 < c) ∨ (k < 1 ∧ ((k : Int) == 0) = true ∧ c < 97) ∨
    (1 ≤ k ∧ ((k : Int) == 0) = false ∧ (c != 95) = true ∧ decide (c ≤ 57) = false ∧ 95 < c ∧ c < 97) ∨ (1 ≤ k ∧ ((k : Int) == 0) = false ∧ (c != 95) = true ∧ decide (c ≤ 57) = false ∧ 57 < c ∧ c < 95) ∨ (1 ≤ k ∧ ((k : Int) == 0) = false ∧ (c != 95) = true ∧ c < 48) := by
  simp only [beq_iff_eq, beq_eq_false_iff_ne, bne_iff_ne, bne_eq_false_iff_eq, ne_eq, decide_eq_false_iff_not]
  omega

set_option maxHeartbeats 1000000 in
theorem spec_name (s : ByteArray) (w : World) (hs : s.size ≤ maxLen) :
    Calls Try.prog 8 #[.string s] w fun e w' => Says s e ∧ w' = w := by
  unfold maxLen at hs
  by_cases h1 : s.size < 1
  · go_enter Try.func8, Try.ntmps8
    go_wp2
    go_ret
    exact ⟨⟨false, rfl, by simp [NameP]; omega⟩, rfl⟩
  by_cases h2 : 20 < s.size
  · go_enter Try.func8, Try.ntmps8
    go_wp2
    go_ret
    exact ⟨⟨false, rfl, by simp [NameP]; omega⟩, rfl⟩
  go_enter Try.func8, Try.ntmps8
  go_wp2
  go_loop [3] (fun i => ∃ k : Nat, k ≤ s.size ∧ i = .int .i64 k ∧ Hid (∀ i (h : i < s.size), i < k → OkAt i (s[i].toNat))) (fun i => s.size - (intOf i).toNat)
  case atStart => exact ⟨0, Nat.zero_le _, rfl, fun i _ h => absurd h (by omega)⟩
  case round =>
    obtain ⟨k, hk, rfl, H⟩ := hrel
    by_cases hlt : k < s.size
    · rcases cases_of k (s[k].toNat) with ⟨a, b⟩ | ⟨a, b, c, d⟩ | ⟨a, b, c, d, f⟩ | ⟨a, b, c⟩ | ⟨a, b, c, g, d⟩ | ⟨a, b, c⟩ | ⟨a, b, c, g, d, f⟩ | ⟨a, b, c, g, d, f⟩ | ⟨a, b, c, d⟩
      iterate 3
        · go_wp2
          go_round
          case rel => exact ⟨k + 1, by omega, by go_num, upto_step s k hlt H.out (by unfold OkAt; omega)⟩
          case measure => simp [intOf]; omega
      all_goals go_wp2
      all_goals try (rename_i hx; simp only [Bool.not_eq_false', decide_eq_true_eq] at hx; omega)
      all_goals
        go_ret
        refine ⟨⟨false, rfl, ?_⟩, rfl⟩
        simp only [Bool.false_eq_true, false_iff]
        intro hn
        have := hn.2.2 k hlt
        unfold OkAt at this
        omega
    · go_wp2
      go_ret
      refine ⟨⟨true, rfl, ?_⟩, rfl⟩
      simp only [true_iff]
      exact ⟨by omega, by omega, fun i hi => H.out i hi (by omega)⟩

theorem letter_yes (c : Int) (w : World) (h1 : 97 ≤ c) (h2 : c ≤ 122) : Calls Try.prog 19 #[.int .u8 c] w fun e w' => e = .returned (.bool true) ∧ w' = w := by
  go_enter Try.func19, Try.ntmps19
  go_wp2
  go_ret
  exact ⟨by simp, rfl⟩
theorem letter_no (c : Int) (w : World) (h : c < 97 ∨ 122 < c) : Calls Try.prog 19 #[.int .u8 c] w fun e w' => e = .returned (.bool false) ∧ w' = w := by
  rcases h with h | h
  · go_enter Try.func19, Try.ntmps19
    go_wp2
    go_ret
    exact ⟨rfl, rfl⟩
  · have h1 : 97 ≤ c := by omega
    go_enter Try.func19, Try.ntmps19
    go_wp2
    go_ret
    exact ⟨by simp; omega, rfl⟩
theorem digit_yes (c : Int) (w : World) (h1 : 48 ≤ c) (h2 : c ≤ 57) : Calls Try.prog 20 #[.int .u8 c] w fun e w' => e = .returned (.bool true) ∧ w' = w := by
  go_enter Try.func20, Try.ntmps20
  go_wp2
  go_ret
  exact ⟨by simp, rfl⟩
theorem digit_no (c : Int) (w : World) (h : c < 48 ∨ 57 < c) : Calls Try.prog 20 #[.int .u8 c] w fun e w' => e = .returned (.bool false) ∧ w' = w := by
  rcases h with h | h
  · go_enter Try.func20, Try.ntmps20
    go_wp2
    go_ret
    exact ⟨rfl, rfl⟩
  · have h1 : 48 ≤ c := by omega
    go_enter Try.func20, Try.ntmps20
    go_wp2
    go_ret
    exact ⟨by simp; omega, rfl⟩

theorem cases_impl (c : Int) :
    (97 ≤ c ∧ c ≤ 122) ∨ ((c < 97 ∨ 122 < c) ∧ 48 ≤ c ∧ c ≤ 57) ∨ ((c < 97 ∨ 122 < c) ∧ (c < 48 ∨ 57 < c) ∧ (c != 95) = false ∧ 95 ≤ c ∧ c ≤ 95) ∨ ((c < 97 ∨ 122 < c) ∧ (c < 48 ∨ 57 < c) ∧ (c != 95) = true ∧ (c < 95 ∨ 95 < c)) := by
  simp only [bne_iff_ne, bne_eq_false_iff_eq, ne_eq]
  omega

set_option maxHeartbeats 1000000 in
theorem impl_name (s : ByteArray) (w : World) (hs : s.size ≤ maxLen) :
    Calls Try.prog 9 #[.string s] w fun e w' => Says s e ∧ w' = w := by
  unfold maxLen at hs
  by_cases h1 : s.size < 1
  · go_enter Try.func9, Try.ntmps9
    go_wp2
    go_ret
    exact ⟨⟨false, rfl, by simp [NameP]; omega⟩, rfl⟩
  by_cases h2 : 20 < s.size
  · go_enter Try.func9, Try.ntmps9
    go_wp2
    go_ret
    exact ⟨⟨false, rfl, by simp [NameP]; omega⟩, rfl⟩
  have hp : 0 < s.size := by omega
  by_cases hl : 97 ≤ (s[0].toNat : Int) ∧ (s[0].toNat : Int) ≤ 122
  · have HL : Hid _ := hl
    obtain ⟨hl1, hl2⟩ := hl
    go_enter Try.func9, Try.ntmps9
    go_wp2_with (go_at_call 19; refine (letter_yes _ _ hl1 hl2).mono ?_; rintro e w' ⟨rfl, rfl⟩)
    clear hl1 hl2
    go_loop [3] (fun i => ∃ k : Nat, 1 ≤ k ∧ k ≤ s.size ∧ i = .int .i64 k ∧ Hid (∀ i (h : i < s.size), i < k → OkAt i (s[i].toNat))) (fun i => s.size - (intOf i).toNat)
    case atStart => exact ⟨1, by omega, by omega, rfl, fun i hi h => by obtain rfl : i = 0 := by omega
                                                                        exact Or.inl HL.out⟩
    case round =>
      obtain ⟨k, hk1, hk, rfl, H⟩ := hrel
      by_cases hlt : k < s.size
      · rcases cases_impl (s[k].toNat) with ⟨a, b⟩ | ⟨a, b, c⟩ | ⟨a, b, c, d, f⟩ | ⟨a, b, c, d⟩
        · go_wp2_with (go_at_call 19; refine (letter_yes _ _ a b).mono ?_; rintro e w' ⟨rfl, rfl⟩)
          go_round
          case rel => exact ⟨k + 1, by omega, by omega, by go_num, upto_step s k hlt H.out (by unfold OkAt; omega)⟩
          case measure => simp [intOf]; omega
        · go_wp2_with (first | (go_at_call 19; refine (letter_no _ _ a).mono ?_; rintro e w' ⟨rfl, rfl⟩) | (go_at_call 20; refine (digit_yes _ _ b c).mono ?_; rintro e w' ⟨rfl, rfl⟩))
          go_round
          case rel => exact ⟨k + 1, by omega, by omega, by go_num, upto_step s k hlt H.out (by unfold OkAt; omega)⟩
          case measure => simp [intOf]; omega
        · go_wp2_with (first | (go_at_call 19; refine (letter_no _ _ a).mono ?_; rintro e w' ⟨rfl, rfl⟩) | (go_at_call 20; refine (digit_no _ _ b).mono ?_; rintro e w' ⟨rfl, rfl⟩))
          go_round
          case rel => exact ⟨k + 1, by omega, by omega, by go_num, upto_step s k hlt H.out (by unfold OkAt; omega)⟩
          case measure => simp [intOf]; omega
        · go_wp2_with (first | (go_at_call 19; refine (letter_no _ _ a).mono ?_; rintro e w' ⟨rfl, rfl⟩) | (go_at_call 20; refine (digit_no _ _ b).mono ?_; rintro e w' ⟨rfl, rfl⟩))
          go_ret
          refine ⟨⟨false, rfl, ?_⟩, rfl⟩
          simp only [Bool.false_eq_true, false_iff]
          intro hn
          have := hn.2.2 k hlt
          unfold OkAt at this
          omega
      · go_wp2
        go_ret
        refine ⟨⟨true, rfl, ?_⟩, rfl⟩
        simp only [true_iff]
        exact ⟨by omega, by omega, fun i hi => H.out i hi (by omega)⟩
  · have hl' : (s[0].toNat : Int) < 97 ∨ 122 < (s[0].toNat : Int) := by omega
    have HL : Hid _ := hl
    clear hl
    go_enter Try.func9, Try.ntmps9
    go_wp2_with (go_at_call 19; refine (letter_no _ _ hl').mono ?_; rintro e w' ⟨rfl, rfl⟩)
    go_ret
    refine ⟨⟨false, rfl, ?_⟩, rfl⟩
    simp only [Bool.false_eq_true, false_iff]
    intro hn
    have := hn.2.2 0 hp
    unfold OkAt at this
    have := HL.out
    omega
end Go.Proofs.Ytjiihkdnpblilae.names
