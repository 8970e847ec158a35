/-
  The program's look whether something Live has that Id.
-/
import Derived.Test.YtohgafblffnekaaArenaLive
namespace Go.Proofs.Ytohgafblffnekaa.deep
open Go.RowKit Go.Deep Go.Maps
open Go.Proofs.Ytohgafblffnekaa
set_option linter.unusedVariables false

def has3 (f : Thd → Option Std) (lb id : Int) : Bool := (f (lb, id, 0)).isSome || (f (lb, id, 1)).isSome || (f (lb, id, 2)).isSome
theorem has3_yes {f : Thd → Option Std} {lb id : Int} {g : Nat} (hg : g < 3) (h : (f (lb, id, (g : Int))).isSome = true) : has3 f lb id = true := by
  match g, hg with
  | 0, _ => have h' : (f (lb, id, 0)).isSome = true := h; simp [has3, h']
  | 1, _ => have h' : (f (lb, id, 1)).isSome = true := h; simp [has3, h']
  | 2, _ => have h' : (f (lb, id, 2)).isSome = true := h; simp [has3, h']
theorem has3_no {f : Thd → Option Std} {lb id : Int} (h : ∀ q : Nat, q < 3 → f (lb, id, (q : Int)) = none) : has3 f lb id = false := by
  have h0 : f (lb, id, 0) = none := h 0 (by decide)
  have h1 : f (lb, id, 1) = none := h 1 (by decide)
  have h2 : f (lb, id, 2) = none := h 2 (by decide)
  simp [has3, h0, h1, h2]

set_option maxHeartbeats 2000000 in
theorem im_has (lb ky ct id : Int) (ag : Option Addr) (ng cg b n : Nat) (f : Thd → Option Std) (w : World) (hl : Live w b n f) (hw : ∀ g : Nat, g < 3 → Wf3 (lb, id, (g : Int))) : Calls Try.prog 67 #[.agg #[.int .i64 lb, .int .i64 ky, .int .i64 ct, .slice ag ng cg, .map (some b)], .int .i64 id] w fun e w' => e = .returned (.bool (has3 f lb id)) ∧ Below w.heap.size w w' := by
  have HL : Hid (Live w b n f) := hl
  have HW : Hid (∀ g : Nat, g < 3 → Wf3 (lb, id, (g : Int))) := hw
  obtain ⟨rv, hrv⟩ : ∃ r, r = has3 f lb id := ⟨_, rfl⟩
  have HRV : Hid (rv = has3 f lb id) := hrv
  rw [← hrv]
  clear hl hw hrv
  go_enter Try.func67, Try.ntmps67
  go_wp2_with fail
  go_loopw [8] (fun t8 wr => ∃ g : Nat, g ≤ 3 ∧ t8 = .int .i64 g ∧ Hid (∀ q : Nat, q < g → f (lb, id, (q : Int)) = none) ∧ Hid (Blk wr w.heap.size 77 [.int .i64 lb, .int .i64 ky, .int .i64 ct, .slice ag ng cg, .map (some b)]) ∧ Hid (Below w.heap.size w wr)) (fun t8 _ => 3 - (intOf t8).toNat)
  case atStart => exact ⟨0, by omega, rfl, fun q hq => absurd hq (Nat.not_lt_zero _), blk_new w _ _, below_one w _⟩
  case round =>
    obtain ⟨g, hg, rfl, HN, HA, HB⟩ := hrel
    by_cases hlt : g < 3
    · have hlti : (g : Int) < 3 := by omega
      have x0 : wr.cell? ⟨w.heap.size, 0, none⟩ = some (.int .i64 lb) := HA.out.cell 0
      have x4 : wr.cell? ⟨w.heap.size, 4, none⟩ = some (.map (some b)) := HA.out.cell 4
      have hlk := (HL.out.later HB.out).look (HW.out g hlt)
      cases hf : f (lb, id, (g : Int)) with
      | none =>
        rw [hf] at hlk
        have HN2 : Hid (∀ q : Nat, q < g + 1 → f (lb, id, (q : Int)) = none) := fun q hq => by
          by_cases e : q < g
          · exact HN.out q e
          · have : q = g := by omega
            rw [this]; exact hf
        simp only [Option.map_none, Option.getD_none, zeroS, Option.isSome_none] at hlk
        clear hf
        go_wp2_with fail
        go_roundw
        case rel => exact ⟨g + 1, by omega, by go_num, HN2.out, HA.out.later (below_one wr _), HB.out.alloc HB.out.size _⟩
        case measure => simp [intOf]; omega
      | some s =>
        rw [hf] at hlk
        have HR : Hid (rv = true) := by rw [Hid, HRV.out]; exact has3_yes hlt (by rw [hf]; rfl)
        obtain ⟨p, ty, V⟩ := s
        simp only [Option.map_some, Option.getD_some, stV, Option.isSome_some] at hlk
        clear hf
        go_wp2_with fail
        go_ret
        exact ⟨by rw [HR.out]; rfl, HB.out.alloc HB.out.size _⟩
    · obtain rfl : g = 3 := by omega
      have HR : Hid (rv = false) := by rw [Hid, HRV.out]; exact has3_no HN.out
      go_wp2_with fail
      go_ret
      exact ⟨by rw [HR.out]; rfl, HB.out⟩

theorem im_full (a b c : Int) (w : World) : Calls Try.prog 35 #[.agg #[.int .i64 a, .int .i64 b, .int .i64 c]] w fun e w' => e = .returned (.agg #[.int .i64 a, .int .i64 b, .int .i64 c]) ∧ Below w.heap.size w w' := by
  go_enter Try.func35, Try.ntmps35
  go_wp2
  exact bodyPost_ret (v := .agg #[.int .i64 a, .int .i64 b, .int .i64 c]) (by simp [results, Try.results35, go_sem]) rfl ⟨rfl, below2 w _ _⟩
end Go.Proofs.Ytohgafblffnekaa.deep
