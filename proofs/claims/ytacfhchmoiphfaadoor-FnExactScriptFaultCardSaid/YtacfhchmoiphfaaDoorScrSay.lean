/-
  The program's tables: how words are said and what they take, the names of kinds; kindText, readWord, readKind. Condition: the two tables read as the program's text lays them.
-/
import Derived.Test.YtacfhchmoiphfaaDoorScrBack2
namespace Go.Proofs.YtacfhchmoiphfaaDoor.scr
open Go.RowKit Go.Deep Go.Sort
open Go.Proofs.YtacfhchmoiphfaaDoor
open Go.Proofs.YtacfhchmoiphfaaDoor.deep (Blk)
set_option linter.unusedVariables false
set_option maxRecDepth 100000

/-- the program's tables stand, and the library's number MaxLen is a number -/
structure Say (w : World) : Prop where
  name : ∀ k : Nat, k < 13 → w.cell? ⟨0, k * 2, none⟩ = some (.string (nameB (k : Int)))
  takes : ∀ k : Nat, k < 13 → w.cell? ⟨0, k * 2 + 1, none⟩ = some (.string (takesB (k : Int)))
  kind : ∀ k : Nat, k < 4 → w.cell? ⟨1, k, none⟩ = some (.string (kindB (k : Int)))
  len : ∃ m, w.cell? ⟨3, 0, none⟩ = some (.int .i64 m)
theorem cell_lt {w : World} {a : Addr} {v : Value} (h : w.cell? a = some v) : a.block < w.heap.size := by
  rcases Nat.lt_or_ge a.block w.heap.size with h' | h'
  · exact h'
  · simp [World.cell?, Array.getElem?_eq_none h'] at h
theorem Say.pos {w : World} (h : Say w) : 0 < w.heap.size ∧ 1 < w.heap.size ∧ 3 < w.heap.size := by
  obtain ⟨m, hm⟩ := h.len
  exact ⟨cell_lt (h.name 0 (by omega)), cell_lt (h.kind 0 (by omega)), cell_lt hm⟩
theorem Say.of {w w' : World} (h : Say w) (hb : ∀ g, g < w.heap.size → g = 0 ∨ g = 1 ∨ g = 3 → w'.heap[g]? = w.heap[g]?) : Say w' := by
  obtain ⟨p0, p1, p2⟩ := h.pos
  have e : ∀ g o, g < w.heap.size → (g = 0 ∨ g = 1 ∨ g = 3) → w'.cell? ⟨g, o, none⟩ = w.cell? ⟨g, o, none⟩ := fun g o hg hx => World.cell?_of_block (w := w) (hb g hg hx)
  obtain ⟨m, hm⟩ := h.len
  exact ⟨fun k hk => (e _ _ p0 (.inl rfl)).trans (h.name k hk), fun k hk => (e _ _ p0 (.inl rfl)).trans (h.takes k hk), fun k hk => (e _ _ p1 (.inr (.inl rfl))).trans (h.kind k hk), m, (e _ _ p2 (.inr (.inr rfl))).trans hm⟩
theorem Say.later {w w' : World} (h : Say w) (hb : Below w.heap.size w w') : Say w' := h.of fun g hg _ => hb.block g hg
theorem Say.alloc {w : World} (h : Say w) (o : Obj) : Say (w.alloc o) := h.later (below_one w o)
/-- a base above the variables -/
def Above (B : Nat) : Prop := 0 < B ∧ 1 < B ∧ 3 < B
theorem Say.above {w : World} (h : Say w) : Above w.heap.size := h.pos
theorem Say.only {B : Nat} {w w' : World} (h : Say w) (hb : Only B w w') (hB : Above B) : Say w' := h.of fun g hg hx => hb.other g (by
  obtain ⟨a, b, c⟩ := hB
  rcases hx with rfl | rfl | rfl <;> omega) hg

set_option maxHeartbeats 2000000 in
theorem impl_kind (n : Int) (w : World) (hS : Say w) : Calls Tryd.prog 63 #[.int .i64 n] w fun e w' => e = .returned (.string (kindB n)) ∧ w' = w := by
  by_cases h : 1 ≤ n ∧ n ≤ 3
  · obtain ⟨k, rfl⟩ : ∃ k : Nat, n = (k : Int) := ⟨n.toNat, by omega⟩
    have hc := hS.kind k (by omega)
    obtain ⟨T, hT⟩ : ∃ T, T = kindB (k : Int) := ⟨_, rfl⟩
    rw [← hT] at hc ⊢
    clear hT hS
    go_enter Tryd.func63, Tryd.ntmps63
    go_wp2
    go_ret
    exact ⟨rfl, rfl⟩
  · rw [kind_off n h]
    rcases Int.lt_or_le n 1 with h1 | h1
    · go_enter Tryd.func63, Tryd.ntmps63
      go_wp2
      go_ret
      exact ⟨rfl, rfl⟩
    · have h3 : 3 < n := by omega
      go_enter Tryd.func63, Tryd.ntmps63
      go_wp2
      go_ret
      exact ⟨rfl, rfl⟩

/-- which word has that name: 0, if none -/
def WordOf (t : ByteArray) (n : Int) : Prop := (1 ≤ n ∧ n ≤ 12 ∧ nameB n = t) ∨ (n = 0 ∧ ∀ m : Int, 1 ≤ m → m ≤ 12 → nameB m ≠ t)
set_option maxHeartbeats 4000000 in
theorem impl_word (t : ByteArray) (w : World) (hS : Say w) : Calls Tryd.prog 52 #[.string t] w fun e w' => ∃ n, e = .returned (.int .i64 n) ∧ WordOf t n ∧ w' = w := by
  have HS : Hid (Say w) := hS
  clear hS
  obtain ⟨O, hO⟩ : ∃ O, O = WordOf t := ⟨_, rfl⟩
  have HO : Hid (O = WordOf t) := hO
  rw [← hO]
  clear hO
  go_enter Tryd.func52, Tryd.ntmps52
  go_wp2
  go_loop [3] (fun tw => ∃ k : Nat, k ≤ 12 ∧ tw = .int .i64 ((k : Int) + 1) ∧ Hid (∀ m : Int, 1 ≤ m → m ≤ k → nameB m ≠ t)) (fun tw => 13 - (intOf tw).toNat)
  case atStart => exact ⟨0, by omega, rfl, fun m h1 h2 => absurd h1 (by omega)⟩
  case round =>
    obtain ⟨k, hk, rfl, HM⟩ := hrel
    by_cases hlt : k < 12
    · have hc := HS.out.name (k + 1) (by omega)
      have HNX : Hid (nameB ((k : Int) + 1) ≠ t → ∀ m : Int, 1 ≤ m → m ≤ ((k + 1 : Nat) : Int) → nameB m ≠ t) := fun h m h1 h2 => by
        by_cases e : m = (k : Int) + 1
        · rw [e]; exact h
        · exact HM.out m h1 (by omega)
      have HYS : Hid (nameB ((k : Int) + 1) = t → O ((k : Int) + 1)) := fun h => by rw [HO.out]; exact .inl ⟨by omega, by omega, h⟩
      rw [show ((k + 1 : Nat) : Int) = (k : Int) + 1 by omega] at hc
      generalize nameB ((k : Int) + 1) = x at *
      have hw1 : (((k : Int) + 1).toNat) = k + 1 := by omega
      by_cases e : x = t
      · have hq := str_eq e
        have HOK : Hid _ := HYS.out e
        clear HYS HNX e
        go_wp2
        go_ret
        exact ⟨_, rfl, HOK.out, rfl⟩
      · have hq := str_ne e
        have HOK : Hid _ := HNX.out e
        clear HYS HNX e
        go_wp2
        go_round
        case rel => exact ⟨k + 1, by omega, by go_num, HOK.out⟩
        case measure => simp [intOf]; omega
    · obtain rfl : k = 12 := by omega
      have HOK : Hid (O 0) := by
        show O 0
        rw [HO.out]; exact .inr ⟨rfl, fun m h1 h2 => HM.out m h1 (by omega)⟩
      clear HM
      go_wp2
      go_ret
      exact ⟨_, rfl, HOK.out, rfl⟩

theorem kindR_of {k : Int} {t : ByteArray} (h1 : 1 ≤ k) (h3 : k ≤ 3) (h : kindB k = t) (d : Int) : kindR t d = k := by
  rw [← h]
  refine kind_text k d ?_
  obtain ⟨j, rfl⟩ : ∃ j : Nat, k = (j : Int) := ⟨k.toNat, by omega⟩
  have : ∀ j : Nat, j < 4 → 1 ≤ j → (kindB (j : Int)).size ≠ 0 := by decide +kernel
  exact this j (by omega) (by omega)
theorem kindR_not {t : ByteArray} (h : ∀ m : Int, 1 ≤ m → m ≤ 3 → kindB m ≠ t) (d : Int) : kindR t d = d := by
  unfold kindR
  rw [if_neg (h 3 (by omega) (by omega)), if_neg (h 2 (by omega) (by omega)), if_neg (h 1 (by omega) (by omega))]
/-- what is told of a kind's name -/
def kindV (r : Int) : Value := if r = 0 then .tuple #[.int .i64 0, .bool false] else .tuple #[.int .i64 r, .bool true]
set_option maxHeartbeats 4000000 in
theorem impl_rkind (t : ByteArray) (w : World) (hS : Say w) : Calls Tryd.prog 69 #[.string t] w fun e w' => e = .returned (kindV (kindR t 0)) ∧ w' = w := by
  have HS : Hid (Say w) := hS
  clear hS
  obtain ⟨V, hV⟩ : ∃ V, V = kindV (kindR t 0) := ⟨_, rfl⟩
  have HV : Hid (V = kindV (kindR t 0)) := hV
  rw [← hV]
  clear hV
  go_enter Tryd.func69, Tryd.ntmps69
  go_wp2
  go_loop [4] (fun tw => ∃ k : Nat, k ≤ 3 ∧ tw = .int .i64 ((k : Int) + 1) ∧ Hid (∀ m : Int, 1 ≤ m → m ≤ k → kindB m ≠ t)) (fun tw => 4 - (intOf tw).toNat)
  case atStart => exact ⟨0, by omega, rfl, fun m h1 h2 => absurd h1 (by omega)⟩
  case round =>
    obtain ⟨k, hk, rfl, HM⟩ := hrel
    by_cases hlt : k < 3
    · have hc := HS.out.kind (k + 1) (by omega)
      have HNX : Hid (kindB ((k : Int) + 1) ≠ t → ∀ m : Int, 1 ≤ m → m ≤ ((k + 1 : Nat) : Int) → kindB m ≠ t) := fun h m h1 h2 => by
        by_cases e : m = (k : Int) + 1
        · rw [e]; exact h
        · exact HM.out m h1 (by omega)
      have HYS : Hid (kindB ((k : Int) + 1) = t → V = .tuple #[.int .i64 ((k : Int) + 1), .bool true]) := fun h => by
        rw [HV.out, kindR_of (by omega) (by omega) h, kindV, if_neg (by omega)]
      rw [show ((k + 1 : Nat) : Int) = (k : Int) + 1 by omega] at hc
      generalize kindB ((k : Int) + 1) = x at *
      have hw1 : (((k : Int) + 1).toNat) = k + 1 := by omega
      by_cases e : x = t
      · have hq := str_eq e
        have HOK : Hid _ := HYS.out e
        clear HYS HNX e
        go_wp2
        go_ret2
        exact ⟨ret_of HOK.out, rfl⟩
      · have hq := str_ne e
        have HOK : Hid _ := HNX.out e
        clear HYS HNX e
        go_wp2
        go_round
        case rel => exact ⟨k + 1, by omega, by go_num, HOK.out⟩
        case measure => simp [intOf]; omega
    · obtain rfl : k = 3 := by omega
      have HOK : Hid (V = .tuple #[.int .i64 0, .bool false]) := by
        show _ = _
        rw [HV.out, kindR_not (fun m h1 h2 => HM.out m h1 (by omega)), kindV, if_pos rfl]
      clear HM HV
      go_wp2
      go_ret2
      exact ⟨ret_of HOK.out, rfl⟩
end Go.Proofs.YtacfhchmoiphfaaDoor.scr
