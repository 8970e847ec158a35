/-
  The walks of the program's Permute and Unpermute at every pair of numbers. No condition.
-/
import Derived.Test.YtmlikahdoaffoaaRows
import Derived.Test.YtmlikahdoaffoaaPermFacts
import Derived.Test.YtmlikahdoaffoaaMix
import Derived.Test.YtmlikahdoaffoaaPerm
import Derived.WalkKit
import Derived.ProofKit
import Derived.WalkLawsBesides
import Derived.Below
import Derived.Deep.RegionHeld3
namespace Go.Proofs.Ytmlikahdoaffoaa.perm
open Go.RowKit
open Go.Proofs.Ytmlikahdoaffoaa
open Go.Proofs.Ytmlikahdoaffoaa.pm
open Go.Proofs.Ytmlikahdoaffoaa.mix (ret_int val_int)

/-- two halves as the program has them -/
def halves (p : Nat × Nat) : Value := .agg #[.int .u8 (p.1 : Nat), .int .u8 (p.2 : Nat)]

theorem turn (k r : Nat) (p : Nat × Nat) (hk : k < 65536) (hr : r < 4) (hp : Half p) (w : World) :
    Calls Try.prog 31 #[.int .u16 k, .int .u32 r, halves p] w fun e w' => e = .returned (halves (pm.step k r p)) ∧ Below w.heap.size w w' := by
  have HC : Hid (∀ W, _) := fun W => mix.impl_mix0 k r p.2 hk hr hp.2 W
  have HX : Hid _ := xor_u8 p.1 (mixN k r p.2) hp.1 (mix_lt _ _ _)
  have hm := mix_lt k r p.2
  have h0 := hp.1
  have h1 := hp.2
  simp only [halves, pm.step]
  generalize mixN k r p.2 = m at *
  go_enter Try.func31, Try.ntmps31
  go_wp2_with fail
  go_region_held3 (fun W => W.cell? ⟨w.heap.size, 0, none⟩ = some (.int .u8 p.1) ∧ W.cell? ⟨w.heap.size, 1, none⟩ = some (.int .u8 p.2))
    (first | assumption | exact ⟨by simp, by simp⟩)
    (first | (go_at_call 28; refine Calls.mono (HC.out _) ?_; rintro e w' ⟨rfl, rfl⟩))
  go_wp2_with fail
  exact bodyPost_ret (v := .agg #[.int .u8 p.2, .int .u8 (p.1 ^^^ m : Nat)]) (by rw [HX.out]; simp [results, Try.results31, go_sem]) rfl
    ⟨rfl, (((Below.refl _ _).alloc (Nat.le_refl _) _).alloc (by simp) _).drew⟩

theorem turn_back (k r : Nat) (p : Nat × Nat) (hk : k < 65536) (hr : r < 4) (hp : Half p) (w : World) :
    Calls Try.prog 32 #[.int .u16 k, .int .u32 r, halves p] w fun e w' => e = .returned (halves (pm.back k (3 - r) p)) ∧ Below w.heap.size w w' := by
  have hr3 : IntKind.u32.wrap ((3 : Int) - r) = ((3 - r : Nat) : Int) := by rw [IntKind.wrap_u32]; omega
  have hc := fun W => mix.impl_mix0 k (3 - r) p.1 hk (by omega) hp.1 W
  rw [← hr3] at hc
  have HC : Hid _ := hc
  clear hc hr3
  have HX : Hid _ := xor_u8 p.2 (mixN k (3 - r) p.1) hp.2 (mix_lt _ _ _)
  have hm := mix_lt k (3 - r) p.1
  have h0 := hp.1
  have h1 := hp.2
  simp only [halves, pm.back]
  generalize mixN k (3 - r) p.1 = m at *
  go_enter Try.func32, Try.ntmps32
  go_wp2_with fail
  go_region_held3 (fun W => W.cell? ⟨w.heap.size, 0, none⟩ = some (.int .u8 p.1) ∧ W.cell? ⟨w.heap.size, 1, none⟩ = some (.int .u8 p.2))
    (first | assumption | exact ⟨by simp, by simp⟩)
    (first | (go_at_call 28; refine Calls.mono (HC.out _) ?_; rintro e w' ⟨rfl, rfl⟩))
  go_wp2_with fail
  exact bodyPost_ret (v := .agg #[.int .u8 (p.2 ^^^ m : Nat), .int .u8 p.1]) (by rw [HX.out]; simp [results, Try.results32, go_sem]) rfl
    ⟨rfl, (((Below.refl _ _).alloc (Nat.le_refl _) _).alloc (by simp) _).drew⟩
end Go.Proofs.Ytmlikahdoaffoaa.perm
