/-
  The walks of the draws' source, more: its making, an edge, some bytes.
-/
import Derived.Test.YtcokchfedaoccabDraws
import Derived.Laws.BytesArg
namespace Go.Proofs.Ytcokchfedaoccab.draws
open Go.RowKit
open Go.Proofs.Ytcokchfedaoccab
set_option linter.unusedVariables false

theorem info8 : (Try.prog.info? 5).map (fun i => (i.zero, i.size, i.bytes)) = some (some (.int .u8 0), 1, 1) := by kernel_rfl

theorem src_at (w : World) (B : Nat) (o : Obj) (h : B = w.heap.size) : (w.alloc o).heap[B]? = some o := by rw [h]; exact (MapKept.heap_alloc w o).1

theorem wrap_range (y : Int) : 0 ≤ IntKind.u64.wrap y ∧ IntKind.u64.wrap y < 18446744073709551616 := by
  rw [IntKind.wrap_u64]
  exact ⟨Int.emod_nonneg _ (by decide), Int.emod_lt_of_pos _ (by decide)⟩
theorem src_size {w : World} {B : Nat} {s0 s1 s2 s3 : Value} {T : TypeId} (h : w.heap[B]? = some (.cells #[s0, s1, s2, s3] T (0, 0))) (v3 : Value) :
    (w.setCell ⟨B, 3, none⟩ v3).heap[B]? = some (.cells #[s0, s1, s2, v3] T (0, 0)) := by
  rw [src_set h 3 v3]; rfl

/-- what l01Source leaves -/
def SPost (x : Option Addr) (len cap : Nat) (w : World) (e : Ending) (w' : World) : Prop :=
  e = .returned (.pointer (some ⟨w.heap.size, 0, none⟩)) ∧ IsSrc w' w.heap.size x len cap ∧ Below w.heap.size w w' ∧ w.heap.size < w'.heap.size

set_option maxHeartbeats 1000000 in
theorem source_some (b off len cap : Nat) (w : World) (hl : (len : Int) ≤ 9223372036854775807) (hb : b < w.heap.size)
    (hcs : ∀ i, i < len → ∃ z : Nat, z < 256 ∧ w.cell? ⟨b, off + i, none⟩ = some (.int .u8 (z : Int))) :
    Calls Try.prog 36 #[.slice (some ⟨b, off, none⟩) len cap] w (SPost (some ⟨b, off, none⟩) len cap w) := by
  have hss := fun W v v' => set_set W w.heap.size 3 v v'
  have HC : Hid _ := hcs
  clear hcs
  go_enter Try.func36, Try.ntmps36
  go_wp2
  go_loopw [4] (fun ti wr => ∃ (k : Nat) (m : Int), ti = .int .i64 k ∧ k ≤ len ∧ k ≤ 64 ∧ Hid (wr.heap[w.heap.size]? = some (.cells #[.slice (some ⟨b, off, none⟩) len cap, .int .i64 0, .int .u64 m, .int .i64 0] 90 (0, 0))) ∧ Hid (0 ≤ m ∧ m < 18446744073709551616) ∧ Hid (Below w.heap.size w wr) ∧ Hid (w.heap.size < wr.heap.size)) (fun ti _ => 64 - (intOf ti).toNat)
  case atStart => exact ⟨0, _, rfl, by omega, by omega, src_at w _ _ rfl, ⟨by omega, by omega⟩, (Below.refl _ _).alloc (Nat.le_refl _) _, by show _ < _; simp⟩
  case round =>
    obtain ⟨k, m, rfl, hk, hk2, HH, HM, HBel, HZ⟩ := hrel
    obtain ⟨c0, c1, c2, c3, ff⟩ := src_cells HH.out
    have f2 := ff 2
    have f3 := ff 3
    clear ff
    by_cases h12 : k < len ∧ k < 64
    · obtain ⟨h1, h2⟩ := h12
      obtain ⟨z, hz, hc0⟩ := HC.out k h1
      have hc : wr.cell? ⟨b, off + k, none⟩ = some (.int .u8 (z : Int)) := (HBel.out.cell (p := ⟨b, off + k, none⟩) hb).trans hc0
      clear hc0 HC
      go_wp2
      go_region
      go_wp2
      go_roundw
      case rel => exact ⟨k + 1, _, by go_num, by omega, by omega, src_mix HH.out _, wrap_range _, (HBel.out.setCell (Nat.le_refl _) _).drew, by simpa [World.setCell, Hid] using HZ.out⟩
      case measure => simp [intOf]; omega
    · have hsz : 0 ≤ (len : Int) / 20 := by omega
      have key : (k < len ∧ ¬ k < 64) ∨ ¬ k < len := by omega
      clear h12 HC
      by_cases h13 : (12 : Int) < (len : Int) / 20
      · have h1 : k < len := by omega
        have h2 : ¬ k < 64 := by omega
        clear key
        go_wp2
        go_ret
        exact ⟨rfl, ⟨0, m, _, src_size HH.out _, by omega, HM.out.1, HM.out.2, by omega, by omega⟩, HBel.out.setCell (Nat.le_refl _) _, by simpa [World.setCell] using HZ.out⟩
      · rcases key with ⟨h1, h2⟩ | h1
        all_goals
          go_wp2
          go_ret
          exact ⟨rfl, ⟨0, m, _, src_size HH.out _, by omega, HM.out.1, HM.out.2, by omega, by omega⟩, HBel.out.setCell (Nat.le_refl _) _, by simpa [World.setCell] using HZ.out⟩

set_option maxHeartbeats 1000000 in
theorem source_none (x : Option Addr) (cap : Nat) (w : World) :
    Calls Try.prog 36 #[.slice x 0 cap] w (SPost x 0 cap w) := by
  have hss := fun W v v' => set_set W w.heap.size 3 v v'
  go_enter Try.func36, Try.ntmps36
  go_wp2
  refine wp_loop_rounds 1 ?_
  rw [rounds_succ]
  go_wp2
  go_ret
  exact ⟨rfl, ⟨0, _, 0, src_at w _ _ rfl, by omega, by omega, by omega, by omega, by omega⟩, (Below.refl _ _).alloc (Nat.le_refl _) _, by simp⟩

theorem source_any (x : Option Addr) (len cap : Nat) (w : World) (hby : Byts w x len w.heap.size) :
    Calls Try.prog 36 #[.slice x len cap] w (SPost x len cap w) := by
  rcases Nat.eq_zero_or_pos len with rfl | hp
  · exact source_none x cap w
  · obtain ⟨b, off, z, rfl, hb, hz, hc⟩ := hby.2 0 hp
    refine source_some b off len cap w hby.1 hb fun i hi => ?_
    obtain ⟨b', off', z', e, _, hz', hc'⟩ := hby.2 i hi
    simp only [Option.some.injEq, Addr.mk.injEq, and_true] at e
    obtain ⟨rfl, rfl⟩ := e
    exact ⟨z', hz', hc'⟩

/-- some bytes -/
theorem conv_own {w : World} {base n : Nat} {v : Value} {xs : List Int} (h : w.ownsRow base 5 1 v n (xs.map (Value.int .u8))) :
    (convert 33 9 v).run Try.prog w = .ok (.string (strOfNums xs)) w := by
  have hl : xs.length = n := by have := h.1; simpa using this
  rcases h.2 with ⟨rfl, h0⟩ | ⟨g, cap, cur, rfl, _, _, _⟩
  · have e : xs = [] := List.eq_nil_of_length_eq_zero (by omega)
    subst e
    exact run_convert_bytes_nil (P := Try.prog) w 33 5 Try.underlying33 Try.underlying5 0 0 9 Try.underlying9
  · refine run_convert_bytes_arg (P := Try.prog) w 33 5 Try.underlying33 Try.underlying5 g 0 n cap xs hl (fun i hi => ?_) 9 Try.underlying9
    have := h.cellAt i (by omega)
    rw [Nat.zero_add, this, List.getElem?_map]
    have hi' : i < xs.length := by omega
    simp [List.getD, List.getElem?_eq_getElem hi']
theorem map_snoc (acc : List Int) (x : Int) : acc.map (Value.int .u8) ++ [Value.int .u8 x] = (acc ++ [x]).map (Value.int .u8) := by simp

theorem grown_other {w a b : World} {B : Nat} {r : Option Nat} (h : w.grownBy a (some B)) (k : a.grownBy b r) (hr : ∀ g, r = some g → w.heap.size ≤ g) : w.grownBy b (some B) :=
  ⟨k.os.trans h.os, k.tape.trans h.tape, k.output.trans h.output, Nat.le_trans h.size k.size, fun i hi hn => (k.block i (Nat.lt_of_lt_of_le hi h.size) (fun e => by have := hr i e.symm; omega)).trans (h.block i hi hn)⟩
theorem IsSrc.other {a b : World} {B : Nat} {x : Option Addr} {len cap : Nat} {r : Option Nat} (h : IsSrc a B x len cap) (k : a.grownBy b r) (hB : B < a.heap.size) (hr : r ≠ some B) : IsSrc b B x len cap := by
  obtain ⟨p, m, sz, hh, q⟩ := h
  exact ⟨p, m, sz, (k.block B hB (fun e => hr e.symm)).trans hh, q⟩

end Go.Proofs.Ytcokchfedaoccab.draws
