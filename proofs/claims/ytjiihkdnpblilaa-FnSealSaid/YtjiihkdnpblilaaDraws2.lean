/-
  The walks of the draws' source, more: its making, an edge, some bytes.
-/
import Derived.Test.YtjiihkdnpblilaaDraws
import Derived.Laws.BytesArg
namespace Go.Proofs.Ytjiihkdnpblilaa.draws
open Go.RowKit
open Go.Proofs.Ytjiihkdnpblilaa
set_option linter.unusedVariables false

theorem info8 : (Try.prog.info? 5).map (fun i => (i.zero, i.size, i.bytes)) = some (some (.int .u8 0), 1, 1) := by kernel_rfl

theorem src_at (w : World) (B : Nat) (o : Obj) (h : B = w.heap.size) : (w.alloc o).heap[B]? = some o := by rw [h]; exact (MapKept.heap_alloc w o).1

theorem wrap_range (y : Int) : 0 ≤ IntKind.u64.wrap y ∧ IntKind.u64.wrap y < 18446744073709551616 := by
  rw [IntKind.wrap_u64]
  exact ⟨Int.emod_nonneg _ (by decide), Int.emod_lt_of_pos _ (by decide)⟩
theorem src_size {w : World} {B : Nat} {s0 s1 s2 s3 : Value} {T : TypeId} (h : w.heap[B]? = some (.cells #[s0, s1, s2, s3] T (0, 0))) (v3 : Value) :
    (w.setCell ⟨B, 3, none⟩ v3).heap[B]? = some (.cells #[s0, s1, s2, v3] T (0, 0)) := by
  rw [src_set h 3 v3]; rfl

/-- what l01Source leaves -/
def SPost (x : Option Addr) (len cap : Nat) (w : World) (e : Ending) (w' : World) : Prop :=
  e = .returned (.pointer (some ⟨w.heap.size, 0, none⟩)) ∧ IsSrc w' w.heap.size x len cap ∧ Below w.heap.size w w' ∧ w.heap.size < w'.heap.size

set_option maxHeartbeats 1000000 in
theorem source_some (b off len cap : Nat) (w : World) (hl : (len : Int) ≤ 9223372036854775807) (hb : b < w.heap.size)
    (hcs : ∀ i, i < len → ∃ z : Nat, z < 256 ∧ w.cell? ⟨b, off + i, none⟩ = some (.int .u8 (z : Int))) :
    Calls Try.prog 13 #[.slice (some ⟨b, off, none⟩) len cap] w (SPost (some ⟨b, off, none⟩) len cap w) := by
  have hss := fun W v v' => set_set W w.heap.size 3 v v'
  have HC : Hid _ := hcs
  clear hcs
  go_enter Try.func13, Try.ntmps13
  go_wp2
  go_loopw [4] (fun ti wr => ∃ (k : Nat) (m : Int), ti = .int .i64 k ∧ k ≤ len ∧ k ≤ 64 ∧ Hid (wr.heap[w.heap.size]? = some (.cells #[.slice (some ⟨b, off, none⟩) len cap, .int .i64 0, .int .u64 m, .int .i64 0] 45 (0, 0))) ∧ Hid (0 ≤ m ∧ m < 18446744073709551616) ∧ Hid (Below w.heap.size w wr) ∧ Hid (w.heap.size < wr.heap.size)) (fun ti _ => 64 - (intOf ti).toNat)
  case atStart => exact ⟨0, _, rfl, by omega, by omega, src_at w _ _ rfl, ⟨by omega, by omega⟩, (Below.refl _ _).alloc (Nat.le_refl _) _, by show _ < _; simp⟩
  case round =>
    obtain ⟨k, m, rfl, hk, hk2, HH, HM, HBel, HZ⟩ := hrel
    obtain ⟨c0, c1, c2, c3, ff⟩ := src_cells HH.out
    have f2 := ff 2
    have f3 := ff 3
    clear ff
    by_cases h12 : k < len ∧ k < 64
    · obtain ⟨h1, h2⟩ := h12
      obtain ⟨z, hz, hc0⟩ := HC.out k h1
      have hc : wr.cell? ⟨b, off + k, none⟩ = some (.int .u8 (z : Int)) := (HBel.out.cell (p := ⟨b, off + k, none⟩) hb).trans hc0
      clear hc0 HC
      go_wp2
      go_region
      go_wp2
      go_roundw
      case rel => exact ⟨k + 1, _, by go_num, by omega, by omega, src_mix HH.out _, wrap_range _, (HBel.out.setCell (Nat.le_refl _) _).drew, by simpa [World.setCell, Hid] using HZ.out⟩
      case measure => simp [intOf]; omega
    · have hsz : 0 ≤ (len : Int) / 20 := by omega
      have key : (k < len ∧ ¬ k < 64) ∨ ¬ k < len := by omega
      clear h12 HC
      by_cases h13 : (12 : Int) < (len : Int) / 20
      · have h1 : k < len := by omega
        have h2 : ¬ k < 64 := by omega
        clear key
        go_wp2
        go_ret
        exact ⟨rfl, ⟨0, m, _, src_size HH.out _, by omega, HM.out.1, HM.out.2, by omega, by omega⟩, HBel.out.setCell (Nat.le_refl _) _, by simpa [World.setCell] using HZ.out⟩
      · rcases key with ⟨h1, h2⟩ | h1
        all_goals
          go_wp2
          go_ret
          exact ⟨rfl, ⟨0, m, _, src_size HH.out _, by omega, HM.out.1, HM.out.2, by omega, by omega⟩, HBel.out.setCell (Nat.le_refl _) _, by simpa [World.setCell] using HZ.out⟩

set_option maxHeartbeats 1000000 in
theorem source_none (x : Option Addr) (cap : Nat) (w : World) :
    Calls Try.prog 13 #[.slice x 0 cap] w (SPost x 0 cap w) := by
  have hss := fun W v v' => set_set W w.heap.size 3 v v'
  go_enter Try.func13, Try.ntmps13
  go_wp2
  refine wp_loop_rounds 1 ?_
  rw [rounds_succ]
  go_wp2
  go_ret
  exact ⟨rfl, ⟨0, _, 0, src_at w _ _ rfl, by omega, by omega, by omega, by omega, by omega⟩, (Below.refl _ _).alloc (Nat.le_refl _) _, by simp⟩

theorem source_any (x : Option Addr) (len cap : Nat) (w : World) (hby : Byts w x len w.heap.size) :
    Calls Try.prog 13 #[.slice x len cap] w (SPost x len cap w) := by
  rcases Nat.eq_zero_or_pos len with rfl | hp
  · exact source_none x cap w
  · obtain ⟨b, off, z, rfl, hb, hz, hc⟩ := hby.2 0 hp
    refine source_some b off len cap w hby.1 hb fun i hi => ?_
    obtain ⟨b', off', z', e, _, hz', hc'⟩ := hby.2 i hi
    simp only [Option.some.injEq, Addr.mk.injEq, and_true] at e
    obtain ⟨rfl, rfl⟩ := e
    exact ⟨z', hz', hc'⟩

/-- some bytes -/
theorem conv_own {w : World} {base n : Nat} {v : Value} {xs : List Int} (h : w.ownsRow base 5 1 v n (xs.map (Value.int .u8))) :
    (convert 22 9 v).run Try.prog w = .ok (.string (strOfNums xs)) w := by
  have hl : xs.length = n := by have := h.1; simpa using this
  rcases h.2 with ⟨rfl, h0⟩ | ⟨g, cap, cur, rfl, _, _, _⟩
  · have e : xs = [] := List.eq_nil_of_length_eq_zero (by omega)
    subst e
    exact run_convert_bytes_nil (P := Try.prog) w 22 5 Try.underlying22 Try.underlying5 0 0 9 Try.underlying9
  · refine run_convert_bytes_arg (P := Try.prog) w 22 5 Try.underlying22 Try.underlying5 g 0 n cap xs hl (fun i hi => ?_) 9 Try.underlying9
    have := h.cellAt i (by omega)
    rw [Nat.zero_add, this, List.getElem?_map]
    have hi' : i < xs.length := by omega
    simp [List.getD, List.getElem?_eq_getElem hi']
theorem map_snoc (acc : List Int) (x : Int) : acc.map (Value.int .u8) ++ [Value.int .u8 x] = (acc ++ [x]).map (Value.int .u8) := by simp

theorem grown_other {w a b : World} {B : Nat} {r : Option Nat} (h : w.grownBy a (some B)) (k : a.grownBy b r) (hr : ∀ g, r = some g → w.heap.size ≤ g) : w.grownBy b (some B) :=
  ⟨k.os.trans h.os, k.tape.trans h.tape, k.output.trans h.output, Nat.le_trans h.size k.size, fun i hi hn => (k.block i (Nat.lt_of_lt_of_le hi h.size) (fun e => by have := hr i e.symm; omega)).trans (h.block i hi hn)⟩
theorem IsSrc.other {a b : World} {B : Nat} {x : Option Addr} {len cap : Nat} {r : Option Nat} (h : IsSrc a B x len cap) (k : a.grownBy b r) (hB : B < a.heap.size) (hr : r ≠ some B) : IsSrc b B x len cap := by
  obtain ⟨p, m, sz, hh, q⟩ := h
  exact ⟨p, m, sz, (k.block B hB (fun e => hr e.symm)).trans hh, q⟩

/-- what bytes leaves -/
def BPost (B : Nat) (x : Option Addr) (len cap : Nat) (n : Int) (w : World) (e : Ending) (w' : World) : Prop :=
  ∃ t : ByteArray, e = .returned (.string t) ∧ t.size = n.toNat ∧ IsSrc w' B x len cap ∧ w.grownBy w' (some B)

set_option maxHeartbeats 1000000 in
set_option maxRecDepth 100000 in
theorem bytes_any (B : Nat) (x : Option Addr) (len cap : Nat) (w : World) (n : Int) (hn : n ≤ 1000000) (hBl : B < w.heap.size) (h : IsSrc w B x len cap) (hby : Byts w x len B) :
    Calls Try.prog 16 #[.pointer (some ⟨B, 0, none⟩), .int .i64 n] w (BPost B x len cap n w) := by
  obtain ⟨i0, hi, hz0, hz1, hz2⟩ := info_parts info8
  have HY : Hid (Byts w x len B) := hby
  have HS0 : Hid (IsSrc w B x len cap) := h
  clear hby h
  go_enter Try.func16, Try.ntmps16
  go_wp2
  go_loopw [5, 6] (fun tb ti wr => ∃ (k : Nat) (acc : List Int), ti = .int .i64 k ∧ ((k : Int) ≤ n ∨ k = 0) ∧ Hid (acc.length = k) ∧ wr.ownsRow w.heap.size 5 1 tb k (acc.map (Value.int .u8)) ∧ Hid (IsSrc wr B x len cap) ∧ Hid (w.grownBy wr (some B)) ∧ w.heap.size ≤ wr.heap.size) (fun _ ti _ => (n - intOf ti).toNat)
  case atStart =>
    have hgr : w.grownBy (w.alloc (.cells #[] 5)) (some B) := World.grownBy_alloc w _ _
    refine ⟨0, [], rfl, Or.inr rfl, rfl, World.ownsRow_made w #[] 0 (Nat.le_refl _) (by unfold maxLen; omega) rfl, ?_, hgr, by simp⟩
    obtain ⟨a, m, sz, hh, r⟩ := HS0.out
    exact ⟨a, m, sz, ((MapKept.heap_alloc w _).2 B hBl).trans hh, r⟩
  case round =>
    obtain ⟨k, acc, rfl, hk, HL, hown, HS, HG, hsz⟩ := hrel
    by_cases hlt : (k : Int) < n
    · have hcall := n_any B x len cap wr 256 HS.out (HY.out.kept HG.out) (by omega)
      have HC : Hid _ := hcall
      clear hcall
      go_wp2_with fail
      refine Calls.mono HC.out ?_
      rintro e w1 ⟨v, rfl, hv0, hv1, hs1, hg1⟩
      have hv2 : v < 256 := by omega
      clear hv1
      have HS1 : Hid (IsSrc w1 B x len cap) := hs1
      have HG1 : Hid (wr.grownBy w1 (some B)) := hg1
      have hown1 := hown.kept hg1 (by
        rcases hown.2 with ⟨e, _⟩ | ⟨g, c, cur, e, hgb, _⟩
        · left; rw [e]; rfl
        · right; rw [e]; simp [Value.ownBlock]; omega)
      have hsz1 : w.heap.size ≤ w1.heap.size := Nat.le_trans hsz hg1.size
      clear hs1 hg1 hown HC
      go_wp2_with (at_builtin; refine wpList_append_own _ rfl _ _ 22 rfl w.heap.size 5 i0 (.int .u8 0) 1 1 Try.underlying22 hi hz0 hz1 hz2 rfl (by decide) _ _ _ rfl (hown1.alloc _) ⟨w1.heap.size, 0, none⟩ 1 1 [.int .u8 v] rfl rfl ?c1 ?c2 ?c3 ?c4 ?c5 ?_)
      case c1 =>
        intro j y hj
        match j, hj with
        | 0, hj => simp at hj; subst hj; simp [Addr.add]
      case c2 => intro y hy; simp at hy; subst hy; rfl
      case c3 => unfold maxLen; omega
      case c4 => omega
      case c5 => simp; omega
      intro v' w2 hown' hgrow _
      rw [map_snoc] at hown'
      have hrow := hown1.lt
      have hgB := grown_trans (World.grownBy_alloc w1 (.cells #[.int .u8 v] 5) _) hgrow
      have HG2 : Hid (w.grownBy w2 (some B)) := grown_other (grown_trans HG.out HG1.out) hgB (fun g hg => (hrow g hg).1)
      have HS2 : Hid (IsSrc w2 B x len cap) := IsSrc.other HS1.out hgB (by omega) (fun e => by have := (hrow B e).1; omega)
      have hsz2 : w.heap.size ≤ w2.heap.size := Nat.le_trans hsz1 hgB.size
      have HL2 : Hid ((acc ++ [v]).length = k + 1) := by show _ = _; simp [HL.out]
      clear hgrow hown1 hrow hgB HG HG1 HS HS1 HL
      go_wp2
      go_roundw
      case rel => exact ⟨k + 1, _, by go_num, by omega, HL2, hown', HS2, HG2, hsz2⟩
      case measure => simp [intOf]; omega
    · have hcv := conv_own hown
      have HN : Hid ((strOfNums acc).size = n.toNat) := by show _ = _; rw [strOfNums_size, HL.out]; omega
      clear hown HL
      go_wp2
      go_ret
      exact ⟨_, rfl, HN.out, HS.out, HG.out⟩
end Go.Proofs.Ytjiihkdnpblilaa.draws
