/-
  The walks of the draws' source: whatever is drawn, it is a number in its bounds; the source stays one; nothing else turns.
-/
import Derived.Test.YtcokchfedaoccabRows
import Derived.WalkKit
import Derived.ProofKit
import Derived.WalkLawsBesides
import Derived.BigRegion
import Derived.Laws.CopyOwn
namespace Go.Proofs.Ytcokchfedaoccab.draws
set_option linter.unusedVariables false
open Go.RowKit
open Go.Proofs.Ytcokchfedaoccab

/-- two stores at one place are the second -/
theorem set_set (w : World) (blk off : Nat) (v v' : Value) : (w.setCell ⟨blk, off, none⟩ v).setCell ⟨blk, off, none⟩ v' = w.setCell ⟨blk, off, none⟩ v' := by
  have e : ((w.setCell ⟨blk, off, none⟩ v).setCell ⟨blk, off, none⟩ v').heap = (w.setCell ⟨blk, off, none⟩ v').heap := by
    apply Array.ext
    · simp [World.setCell]
    · intro i h1 h2
      simp only [World.setCell, Array.getElem_modify]
      by_cases h : blk = i
      · simp only [if_pos h]
        cases w.heap[i]'(by simpa [World.setCell] using h2) <;> simp
      · simp only [if_neg h]
  simp only [World.setCell] at e ⊢
  rw [e]

theorem grown_refl (w : World) (r : Option Nat) : w.grownBy w r := ⟨rfl, rfl, rfl, Nat.le_refl _, fun _ _ _ => rfl⟩
theorem grown_set {w w' : World} {B : Nat} (h : w.grownBy w' (some B)) (i : Nat) (v : Value) : w.grownBy (w'.setCell ⟨B, i, none⟩ v) (some B) :=
  ⟨h.os, h.tape, h.output, by simp [World.setCell, h.size], fun k hk hn => by rw [Below.heap_setCell _ _ _ _ (fun e => hn (by rw [e]))]; exact h.block k hk hn⟩
theorem grown_drew {w w' : World} {r : Option Nat} (h : w.grownBy w' r) : w.grownBy w'.drew r := ⟨h.os, h.tape, h.output, h.size, h.block⟩
theorem grown_trans {a b c : World} {r : Option Nat} (h : a.grownBy b r) (k : b.grownBy c r) : a.grownBy c r :=
  ⟨k.os.trans h.os, k.tape.trans h.tape, k.output.trans h.output, Nat.le_trans h.size k.size, fun i hi hn => (k.block i (Nat.lt_of_lt_of_le hi h.size) hn).trans (h.block i hi hn)⟩

/-- the draws' source in block B, over the bytes that the slice x, len, cap leads to -/
def IsSrc (w : World) (B : Nat) (x : Option Addr) (len cap : Nat) : Prop :=
  ∃ (a : Nat) (m sz : Int), w.heap[B]? = some (.cells #[.slice x len cap, .int .i64 (a : Int), .int .u64 m, .int .i64 sz] 90 (0, 0)) ∧ a ≤ len ∧ 0 ≤ m ∧ m < 18446744073709551616 ∧ 0 ≤ sz ∧ sz ≤ 12
/-- the slice's bytes lie below block B -/
def Byts (w : World) (x : Option Addr) (len B : Nat) : Prop :=
  (len : Int) ≤ 9223372036854775807 ∧ ∀ i, i < len → ∃ b off z : Nat, x = some ⟨b, off, none⟩ ∧ b < B ∧ z < 256 ∧ w.cell? ⟨b, off + i, none⟩ = some (.int .u8 (z : Int))

theorem cell_lt {w : World} {a : Addr} {v : Value} (h : w.cell? a = some v) : a.block < w.heap.size := by
  rcases Nat.lt_or_ge a.block w.heap.size with h1 | h1
  · exact h1
  · simp [World.cell?, Array.getElem?_eq_none h1] at h
theorem Byts.kept {w w' : World} {x : Option Addr} {len B : Nat} (h : Byts w x len B) (hg : w.grownBy w' (some B)) : Byts w' x len B := by
  refine ⟨h.1, fun i hi => ?_⟩
  obtain ⟨b, off, z, hx, hb, hz, hc⟩ := h.2 i hi
  exact ⟨b, off, z, hx, hb, hz, hg.cell hc (by simp; omega)⟩
theorem Byts.below {w w' : World} {x : Option Addr} {len B B' : Nat} (h : Byts w x len B) (hb : Below B' w w') (hB : B ≤ B') : Byts w' x len B := by
  refine ⟨h.1, fun i hi => ?_⟩
  obtain ⟨b, off, z, hx, hbb, hz, hc⟩ := h.2 i hi
  exact ⟨b, off, z, hx, hbb, hz, (hb.cell (p := ⟨b, off + i, none⟩) (by show b < B'; omega)).trans hc⟩

/-- what n leaves -/
def NPost (B : Nat) (x : Option Addr) (len cap : Nat) (most : Int) (w : World) (e : Ending) (w' : World) : Prop :=
  ∃ v : Int, e = .returned (.int .i64 v) ∧ 0 ≤ v ∧ (v < most ∨ v = 0) ∧ IsSrc w' B x len cap ∧ w.grownBy w' (some B)

theorem xor_range (a b : Int) : 0 ≤ bits .xor .u64 a b ∧ bits .xor .u64 a b < 18446744073709551616 := by
  have h : bits .xor .u64 a b = IntKind.u64.wrap ((BitVec.ofInt 64 a ^^^ BitVec.ofInt 64 b).toNat : Int) := rfl
  rw [h, IntKind.wrap_u64]
  exact ⟨Int.emod_nonneg _ (by decide), Int.emod_lt_of_pos _ (by decide)⟩
theorem rem_range (y most : Int) (h1 : 1 < most) (h2 : most ≤ 9223372036854775807) :
    0 ≤ wrap64 ((IntKind.u64.wrap y).tmod most) ∧ wrap64 ((IntKind.u64.wrap y).tmod most) < most := by
  have h0 : 0 ≤ IntKind.u64.wrap y := by rw [IntKind.wrap_u64]; exact Int.emod_nonneg _ (by decide)
  have e : (IntKind.u64.wrap y).tmod most = (IntKind.u64.wrap y) % most := Int.tmod_eq_emod_of_nonneg h0
  have a := Int.emod_nonneg (IntKind.u64.wrap y) (show most ≠ 0 by omega)
  have b := Int.emod_lt_of_pos (IntKind.u64.wrap y) (show 0 < most by omega)
  rw [e, IntWalk.wrap64_in _ ⟨by omega, by omega⟩]
  exact ⟨a, b⟩

theorem src_cells {w : World} {B : Nat} {s0 s1 s2 s3 : Value} {T : TypeId} (h : w.heap[B]? = some (.cells #[s0, s1, s2, s3] T (0, 0))) :
    w.cell? ⟨B, 0, none⟩ = some s0 ∧ w.cell? ⟨B, 1, none⟩ = some s1 ∧ w.cell? ⟨B, 2, none⟩ = some s2 ∧ w.cell? ⟨B, 3, none⟩ = some s3 ∧ (∀ i, w.frozen? ⟨B, i, none⟩ = false) := by
  refine ⟨?_, ?_, ?_, ?_, ?_⟩
  · rw [cell_of_row w B 0 _ T (0, 0) h]; rfl
  · rw [cell_of_row w B 1 _ T (0, 0) h]; rfl
  · rw [cell_of_row w B 2 _ T (0, 0) h]; rfl
  · rw [cell_of_row w B 3 _ T (0, 0) h]; rfl
  · intro i; simp [World.frozen?, h]

theorem src_set {w : World} {B : Nat} {cs : Array Value} {T : TypeId} (h : w.heap[B]? = some (.cells cs T (0, 0))) (i : Nat) (v : Value) : (w.setCell ⟨B, i, none⟩ v).heap[B]? = some (.cells (cs.setIfInBounds i v) T (0, 0)) :=
  heap_setCell_same w B i cs T v h

theorem src_both {w : World} {B : Nat} {s0 s1 s2 s3 : Value} {T : TypeId} (h : w.heap[B]? = some (.cells #[s0, s1, s2, s3] T (0, 0))) (v1 v2 : Value) :
    ((w.setCell ⟨B, 1, none⟩ v1).setCell ⟨B, 2, none⟩ v2).heap[B]? = some (.cells #[s0, v1, v2, s3] T (0, 0)) := by
  rw [src_set (src_set h 1 v1) 2 v2]; rfl
theorem src_mix {w : World} {B : Nat} {s0 s1 s2 s3 : Value} {T : TypeId} (h : w.heap[B]? = some (.cells #[s0, s1, s2, s3] T (0, 0))) (v2 : Value) :
    (w.setCell ⟨B, 2, none⟩ v2).heap[B]? = some (.cells #[s0, s1, v2, s3] T (0, 0)) := by
  rw [src_set h 2 v2]; rfl

theorem n_small (B : Nat) (x : Option Addr) (len cap : Nat) (w : World) (most : Int) (h : IsSrc w B x len cap) (hmost : most ≤ 1) :
    Calls Try.prog 38 #[.pointer (some ⟨B, 0, none⟩), .int .i64 most] w (NPost B x len cap most w) := by
  have H : Hid (IsSrc w B x len cap) := h
  clear h
  go_enter Try.func38, Try.ntmps38
  go_wp2
  go_ret
  exact ⟨0, rfl, by omega, Or.inr rfl, H.out, grown_refl _ _⟩

set_option maxHeartbeats 1000000 in
theorem n_more (B b off len cap : Nat) (w : World) (a : Nat) (m sz most : Int) (z : Nat)
    (hh : w.heap[B]? = some (.cells #[.slice (some ⟨b, off, none⟩) len cap, .int .i64 (a : Int), .int .u64 m, .int .i64 sz] 90 (0, 0))) (hb : b < B)
    (cz : w.cell? ⟨b, off + a, none⟩ = some (.int .u8 (z : Int))) (hz : z < 256) (hs0 : 0 ≤ sz) (hs1 : sz ≤ 12)
    (ha : a < len) (hl : (len : Int) ≤ 9223372036854775807) (hm0 : 0 ≤ m) (hm : m ≤ 18446744073709551615) (hmost : 1 < most) (hmost2 : most ≤ 9223372036854775807) :
    Calls Try.prog 38 #[.pointer (some ⟨B, 0, none⟩), .int .i64 most] w (NPost B (some ⟨b, off, none⟩) len cap most w) := by
  have hss := fun W v v' => set_set W B 2 v v'
  obtain ⟨c0, c1, c2, c3, ff⟩ := src_cells hh
  have f1 := ff 1
  have f2 := ff 2
  have HH : Hid _ := hh
  clear hh ff
  go_enter Try.func38, Try.ntmps38
  go_wp2
  go_region
  go_wp2
  go_region
  go_wp2
  go_region
  go_wp2
  go_region
  go_wp2
  go_region
  go_wp2
  go_ret
  exact ⟨_, rfl, (rem_range _ most hmost hmost2).1, Or.inl (rem_range _ most hmost hmost2).2, ⟨a + 1, _, sz, src_both HH.out _ _, by omega, (xor_range _ _).1, (xor_range _ _).2, hs0, hs1⟩,
    grown_drew (grown_drew (grown_drew (grown_drew (grown_drew (grown_set (grown_set (grown_refl _ _) 1 _) 2 _)))))⟩

set_option maxHeartbeats 1000000 in
theorem n_end (B : Nat) (x : Option Addr) (len cap : Nat) (w : World) (a : Nat) (m sz most : Int)
    (hh : w.heap[B]? = some (.cells #[.slice x len cap, .int .i64 (a : Int), .int .u64 m, .int .i64 sz] 90 (0, 0))) (hs0 : 0 ≤ sz) (hs1 : sz ≤ 12)
    (ha : ¬ a < len) (ha2 : a ≤ len) (hl : (len : Int) ≤ 9223372036854775807) (hm0 : 0 ≤ m) (hm : m ≤ 18446744073709551615) (hmost : 1 < most) (hmost2 : most ≤ 9223372036854775807) :
    Calls Try.prog 38 #[.pointer (some ⟨B, 0, none⟩), .int .i64 most] w (NPost B x len cap most w) := by
  have hss := fun W v v' => set_set W B 2 v v'
  obtain ⟨c0, c1, c2, c3, ff⟩ := src_cells hh
  have f2 := ff 2
  have HH : Hid _ := hh
  clear hh ff
  go_enter Try.func38, Try.ntmps38
  go_wp2
  go_region
  go_wp2
  go_region
  go_wp2
  go_region
  go_wp2
  go_region
  go_wp2
  go_ret
  exact ⟨_, rfl, (rem_range _ most hmost hmost2).1, Or.inl (rem_range _ most hmost hmost2).2, ⟨a, _, sz, src_mix HH.out _, by omega, (xor_range _ _).1, (xor_range _ _).2, hs0, hs1⟩,
    grown_drew (grown_drew (grown_drew (grown_drew (grown_set (grown_refl _ _) 2 _))))⟩

/-- n, whatever the source holds -/
theorem n_any (B : Nat) (x : Option Addr) (len cap : Nat) (w : World) (most : Int) (h : IsSrc w B x len cap) (hby : Byts w x len B) (hmost : most ≤ 9223372036854775807) :
    Calls Try.prog 38 #[.pointer (some ⟨B, 0, none⟩), .int .i64 most] w (NPost B x len cap most w) := by
  by_cases h1 : most ≤ 1
  · exact n_small B x len cap w most h h1
  · obtain ⟨a, m, sz, hh, ha, hm0, hm1, hs0, hs1⟩ := h
    by_cases hlt : a < len
    · obtain ⟨b, off, z, rfl, hb, hz, hc⟩ := hby.2 a hlt
      exact n_more B b off len cap w a m sz most z hh hb hc hz hs0 hs1 hlt hby.1 hm0 (by omega) (by omega) hmost
    · exact n_end B x len cap w a m sz most hh hs0 hs1 hlt ha hby.1 hm0 (by omega) (by omega) hmost

/-- what one leaves -/
def OPost (B : Nat) (x : Option Addr) (len cap : Nat) (w : World) (e : Ending) (w' : World) : Prop :=
  ∃ t : Bool, e = .returned (.bool t) ∧ IsSrc w' B x len cap ∧ w.grownBy w' (some B)
theorem one_any (B : Nat) (x : Option Addr) (len cap : Nat) (w : World) (of : Int) (h : IsSrc w B x len cap) (hby : Byts w x len B) (hof : of ≤ 9223372036854775807) :
    Calls Try.prog 42 #[.pointer (some ⟨B, 0, none⟩), .int .i64 of] w (OPost B x len cap w) := by
  have HC : Hid _ := n_any B x len cap w of h hby hof
  clear h hby
  go_enter Try.func42, Try.ntmps42
  go_wp2_with fail
  refine Calls.mono HC.out ?_
  rintro e w1 ⟨v, rfl, _, _, hs, hg⟩
  have HS : Hid _ := hs
  have HG : Hid _ := hg
  clear hs hg
  go_wp2
  go_ret
  exact ⟨_, rfl, HS.out, HG.out⟩
end Go.Proofs.Ytcokchfedaoccab.draws
