/-
  Rows of bytes that were handed in: what a walk may take of them.
-/
import Derived.Test.YtcokchfedaoccabDraws
import Derived.ProofKit
import Derived.OpenShut
import Derived.ShutString
import Derived.Carry
namespace Go.Proofs.Ytcokchfedaoccab.handed
open Go.ChangeShapes Go.WideShapes Go.ChangeAt Go.RowKit
open Go.Proofs.Ytcokchfedaoccab

theorem laidOut : laidOutB Try.prog = true := by kernel_rfl
theorem cells8 : Try.prog.cellsOf 5 = 1 := by kernel_rfl

/-- a row of bytes that was handed in -/
theorem opened {H : Type} {enc : TypeId × Value → H} {W : World} {a0 : Option Addr} {len cap : Nat} {d0 : DataW H} {p : List MemPlace}
    (h0 : DataW.Trod enc Try.prog W 0 (fun _ => true) true 33 (.slice a0 len cap) d0 p) : draws.Byts W a0 len W.heap.size := by
  obtain ⟨fuel, hf⟩ := h0
  rcases open_ints Try.underlying33 Try.underlying5 cells8 hf with ⟨hcs, _⟩ | ⟨a, len', cap', zs, hcs, _, hl, hm, hz, _, hcell, hwz⟩
  · simp [Value.cells] at hcs
    obtain ⟨rfl, rfl, rfl⟩ := hcs
    exact ⟨by decide, fun i hi => absurd hi (Nat.not_lt_zero _)⟩
  · simp [Value.cells] at hcs
    obtain ⟨rfl, rfl, rfl⟩ := hcs
    simp only [if_true] at hz
    refine ⟨by unfold maxLen at hm; omega, fun i hi => ?_⟩
    have h0 := hcell 0 (by omega)
    have hi' := hcell i (by omega)
    obtain ⟨b, off, spot⟩ := a
    have hsp : spot = none := by
      cases spot with
      | none => rfl
      | some k =>
        exfalso
        have : W.cell? ⟨b, off, some k⟩ = none := by unfold World.cell?; split <;> simp
        rw [show (Addr.add ⟨b, off, some k⟩ 0) = ⟨b, off, some k⟩ from rfl, this] at h0
        simp at h0
    subst hsp
    have ea : Addr.add ⟨b, off, none⟩ i = ⟨b, off + i, none⟩ := by
      unfold Addr.add; split
      · next h => subst h; rfl
      · rfl
    rw [ea] at hi'
    have hmem : zs.getD i 0 ∈ zs := by
      have hlt : i < zs.length := by omega
      simp [List.getD, List.getElem?_eq_getElem hlt]
    have hw := hwz _ hmem
    have hr : 0 ≤ zs.getD i 0 ∧ zs.getD i 0 ≤ 255 := by simpa [Lit.wf, IntKind.min, IntKind.max, IntKind.signed, IntKind.bits] using hw
    generalize zs.getD i 0 = z at hi' hr
    obtain ⟨k, rfl⟩ := Int.eq_ofNat_of_zero_le hr.1
    exact ⟨b, off, k, rfl, draws.cell_lt hi', by omega, hi'⟩
end Go.Proofs.Ytcokchfedaoccab.handed
