/-
  A row of numbers that was handed in: what is read of it; the laws' own helper that makes it anew.
-/
import Derived.Test.YtcokchfedaoccaaIntRows
import Derived.Test.YtcokchfedaoccaaBlkTo
import Derived.OpenShut
import Derived.Carry
import Derived.Laws.CopyOwn
namespace Go.Proofs.Ytcokchfedaoccaa.irows
open Go.RowKit Go.Deep Go.Sort
set_option linter.unusedVariables false

/-- what a slice of numbers that was handed in reads as -/
def RdO (w : World) (v : Value) (ps : List Int) : Prop :=
  ∃ (a : Option Addr) (c : Nat), v = .slice a ps.length c ∧ ps.length ≤ maxLen ∧
    (0 < ps.length → ∃ g o, a = some ⟨g, o, none⟩ ∧ g < w.heap.size ∧ ∀ i (hi : i < ps.length), w.cell? ⟨g, o + i, none⟩ = some (.int .i64 ps[i]))
theorem RdO.below {w w' : World} {v : Value} {ps : List Int} (h : RdO w v ps) (hb : Below w.heap.size w w') : RdO w' v ps := by
  obtain ⟨a, c, rfl, h1, h3⟩ := h
  refine ⟨a, c, rfl, h1, fun hn => ?_⟩
  obtain ⟨g, o, rfl, hg, hc⟩ := h3 hn
  exact ⟨g, o, rfl, Nat.lt_of_lt_of_le hg hb.size, fun i hi => (hb.cell (p := ⟨g, o + i, none⟩) hg).trans (hc i hi)⟩

theorem laidOut : laidOutB Try.prog = true := by kernel_rfl
theorem cells64 : Try.prog.cellsOf 2 = 1 := by kernel_rfl
theorem info64 : (Try.prog.info? 2).map (fun i => (i.zero, i.size, i.bytes)) = some (some (.int .i64 0), 1, 8) := by kernel_rfl
theorem cell_less {w : World} {p : Addr} {v : Value} (h : w.cell? p = some v) : p.block < w.heap.size := by
  rcases Nat.lt_or_ge p.block w.heap.size with h1 | h1
  · exact h1
  · simp [World.cell?, Array.getElem?_eq_none h1] at h
open Go.ChangeShapes Go.WideShapes Go.ChangeAt in
/-- a row of numbers that was handed in -/
theorem opened {H : Type} {enc : TypeId × Value → H} {W : World} {a0 : Option Addr} {l0 c0 : Nat} {d0 : DataW H} {p : List MemPlace}
    (h0 : DataW.Trod enc Try.prog W 0 (fun _ => true) true 44 (.slice a0 l0 c0) d0 p) : ∃ ps, RdO W (.slice a0 l0 c0) ps := by
  obtain ⟨fuel, hf⟩ := h0
  rcases open_ints Try.underlying44 Try.underlying2 cells64 hf with ⟨hcs, _⟩ | ⟨a, len, cap, zs, hcs, _, hl, hm, hz, _, hcell, hwz⟩
  · simp [Value.cells] at hcs
    obtain ⟨rfl, rfl, rfl⟩ := hcs
    exact ⟨[], none, 0, rfl, by simp, fun h => absurd h (by simp)⟩
  · simp [Value.cells] at hcs
    obtain ⟨rfl, rfl, rfl⟩ := hcs
    simp only [if_true] at hz
    have hlz : (zs.take l0).length = l0 := by simp; omega
    refine ⟨zs.take l0, some a, c0, by rw [hlz], by rw [hlz]; omega, fun hn => ?_⟩
    rw [hlz] at hn
    have h0 := hcell 0 (by omega)
    obtain ⟨b, off, spot⟩ := a
    have hsp : spot = none := by
      cases spot with
      | none => rfl
      | some k =>
        exfalso
        have : W.cell? ⟨b, off, some k⟩ = none := by unfold World.cell?; split <;> simp
        rw [show (Addr.add ⟨b, off, some k⟩ 0) = ⟨b, off, some k⟩ from rfl, this] at h0
        simp at h0
    subst hsp
    have ea : ∀ i, Addr.add ⟨b, off, none⟩ i = ⟨b, off + i, none⟩ := fun i => by
      unfold Addr.add; split
      · next h => subst h; rfl
      · rfl
    refine ⟨b, off, rfl, cell_less h0, fun i hi => ?_⟩
    have hi' : i < zs.length := by rw [hlz] at hi; omega
    have := hcell i hi'
    rw [ea] at this
    rw [this]
    simp [List.getD, List.getElem?_eq_getElem hi']

def soTo (xs : List Int) (j : Nat) : List Int := xs.take j ++ (List.replicate xs.length 0).drop j
theorem soTo_zero (xs : List Int) : soTo xs 0 = List.replicate xs.length 0 := by simp [soTo]
theorem soTo_all (xs : List Int) : soTo xs xs.length = xs := by simp [soTo]
theorem soTo_len (xs : List Int) (j : Nat) (h : j ≤ xs.length) : (soTo xs j).length = xs.length := by simp [soTo]; omega
theorem soTo_set (xs : List Int) (j : Nat) (h : j < xs.length) : (soTo xs j).set j xs[j] = soTo xs (j + 1) := by
  have e : (List.replicate xs.length (0 : Int)).drop j = 0 :: (List.replicate xs.length (0 : Int)).drop (j + 1) := by
    rw [List.drop_eq_getElem_cons (by simpa using h)]; simp
  have hl : (xs.take j).length = j := by simp; omega
  rw [soTo, soTo, e, List.set_append_right _ _ (by omega), hl, Nat.sub_self, List.set_cons_zero, List.take_add_one, List.getElem?_eq_getElem h, List.append_assoc]
  rfl
theorem made_zero (n : Nat) : (madeCells #[Value.int .i64 0] (n * 1)).toList = (List.replicate n (0 : Int)).map (Value.int .i64) := by
  rw [List.map_replicate, List.eq_replicate_iff]
  refine ⟨by simp [madeCells], fun b hb => ?_⟩
  simp only [madeCells, Array.toList_map, List.mem_map] at hb
  obtain ⟨i, _, rfl⟩ := hb
  simp [Nat.mod_one]
/-- what toInt64S leaves -/
def ToPost (xs : List Int) (w : World) (e : Ending) (w' : World) : Prop := ∃ v', e = .returned v' ∧ Row w' w.heap.size v' xs ∧ Below w.heap.size w w'

set_option maxHeartbeats 2000000 in
theorem to_ints {w : World} {v : Value} {xs : List Int} (h : RdO w v xs) (hn : xs.length ≤ 1048576) : Calls Try.prog 30 #[v] w (ToPost xs w) := by
  obtain ⟨a, c, rfl, _, h3⟩ := h
  obtain ⟨i0, hi, hz0, hz1, hz2⟩ := info_parts info64
  obtain ⟨n, hx⟩ : ∃ n, n = xs.length := ⟨_, rfl⟩
  have H3 : Hid (0 < xs.length → ∃ g o, a = some ⟨g, o, none⟩ ∧ g < w.heap.size ∧ ∀ i (hi : i < xs.length), w.cell? ⟨g, o + i, none⟩ = some (.int .i64 xs[i])) := h3
  have HX : Hid (n = xs.length) := hx
  rw [← hx] at hn ⊢
  clear h3 hx
  go_enter Try.func30, Try.ntmps30
  go_wp2_with (first | (at_make; refine wpList_make_full _ rfl _ _ 44 rfl w.heap.size 2 i0 (.int .i64 0) 1 Try.underlying44 hi hz0 hz1 .i64 .i64 _ _ n rfl rfl rfl rfl (by rw [hz2]; omega) (by unfold maxLen; omega) (Nat.le_refl _) ?_; intro w1 own1 gr1) | go_in)
  have HROW : Hid (Row w1 w.heap.size (.slice (some ⟨w.heap.size, 0, none⟩) n n) (soTo xs 0)) := by
    have e : (soTo xs 0).length = n := by rw [soTo_zero, List.length_replicate, HX.out]
    have e2 : (soTo xs 0).map (Value.int .i64) = (madeCells (Value.int .i64 0).cells (n * 1)).toList := by rw [soTo_zero, ← HX.out, ← made_zero]; rfl
    rw [Hid, Row, e, e2]; exact own1
  have HB1 : Hid (Below w.heap.size w w1) := (Below.refl w.heap.size w).grown gr1 (Nat.le_refl _) (fun k hk => by cases hk)
  clear own1 gr1
  go_wp2_with fail
  go_loopw [4] (fun i wr => ∃ j : Nat, j ≤ n ∧ i = .int .i64 j ∧ Hid (Row wr w.heap.size (.slice (some ⟨w.heap.size, 0, none⟩) n n) (soTo xs j)) ∧ Hid (Below w.heap.size w wr)) (fun i _ => n - (intOf i).toNat)
  case atStart => exact ⟨0, by omega, rfl, HROW.out, HB1.out⟩
  case round =>
    obtain ⟨j, hj, rfl, HR, HB⟩ := hrel
    by_cases hlt : j < n
    · have hlx : j < xs.length := by rw [← HX.out]; exact hlt
      obtain ⟨g, o, rfl, hg, hc⟩ := H3.out (by omega)
      have e0 := (HB.out.cell (p := ⟨g, o + j, none⟩) hg).trans (hc j hlx)
      have HSET : Hid (∀ W, Row W w.heap.size (.slice (some ⟨w.heap.size, 0, none⟩) n n) (soTo xs j) → Row (W.setCell ⟨w.heap.size, j, none⟩ (.int .i64 xs[j])) w.heap.size (.slice (some ⟨w.heap.size, 0, none⟩) n n) (soTo xs (j + 1))) := fun W hW => by
        rw [← soTo_set xs j hlx]; exact hW.set _
      have HSL : Hid (j < (soTo xs j).length) := by rw [Hid, soTo_len xs j (by omega)]; exact hlx
      clear hc
      generalize xs[j] = p at *
      obtain ⟨hc2, hf2⟩ := HR.out.cells
      obtain ⟨old, hc3⟩ : ∃ old, wr.cell? ⟨w.heap.size, j, none⟩ = some (.int .i64 old) := ⟨_, hc2 j HSL.out⟩
      have hf3 := hf2 j
      clear hc2 hf2
      go_wp2_with fail
      go_roundw
      case rel => exact ⟨j + 1, by omega, by go_num, HSET.out _ HR.out, HB.out.setCell (by simp) _⟩
      case measure => simp [intOf]; omega
    · obtain rfl : j = n := by omega
      have HRE : Hid (Row wr w.heap.size (.slice (some ⟨w.heap.size, 0, none⟩) j j) xs) := by have := HR.out; rw [HX.out, soTo_all, ← HX.out] at this; exact this
      go_wp2_with fail
      go_ret
      exact ⟨_, rfl, HRE.out, HB.out⟩
theorem grown_tr {a c d : World} {row : Option Nat} (h : a.grownBy c row) (k : c.grownBy d row) : a.grownBy d row :=
  ⟨k.os.trans h.os, k.tape.trans h.tape, k.output.trans h.output, Nat.le_trans h.size k.size, fun i hi hr => (k.block i (Nat.lt_of_lt_of_le hi h.size) hr).trans (h.block i hi hr)⟩
theorem grown_set1 (w : World) (g i : Nat) (u : Value) : w.grownBy (w.setCell ⟨g, i, none⟩ u) (some g) :=
  ⟨rfl, rfl, rfl, by simp, fun k _ hk => Below.heap_setCell _ _ _ _ (fun e => hk (by rw [e]))⟩
/-- a row that is marked: nothing else has turned -/
def Marked (base : Nat) (v : Value) (n : Nat) (k : Int) (w : World) (e : Ending) (w' : World) : Prop :=
  e = .returned (.int .i64 (k + n)) ∧ Row w' base v (run k n) ∧ w.grownBy w' v.ownBlock
set_option maxHeartbeats 1000000 in
theorem mark_ints {w : World} {base : Nat} {v : Value} {xs : List Int} {k : Int} (h : Row w base v xs) (hn : xs.length ≤ 1000000000) (hk0 : 0 ≤ k) (hk1 : k ≤ 1000000000) :
    Calls Try.prog 27 #[v, .int .i64 k] w (Marked base v xs.length k w) := by
  by_cases h0 : xs.length = 0
  · obtain ⟨a, c, ha⟩ := h.form
    have e : xs = [] := List.eq_nil_of_length_eq_zero h0
    subst e
    rw [ha] at h ⊢
    refine (mark_none a c k w).mono ?_
    rintro e w' ⟨rfl, rfl⟩
    exact ⟨by simp, h, World.grownBy.refl _ _⟩
  obtain ⟨g, c, rfl, hbg, hg, _, _⟩ := h.at (by omega)
  obtain ⟨n, hx⟩ : ∃ n, n = xs.length := ⟨_, rfl⟩
  rw [← hx] at h hn ⊢
  have HX : Hid (n = xs.length) := hx
  have HP : Hid (Row w base (.slice (some ⟨g, 0, none⟩) n c) xs) := h
  have hn0 : 0 < n := by omega
  clear hx h h0
  go_enter Try.func27, Try.ntmps27
  go_wp2
  go_loopw [1, 5] (fun tk i wr => ∃ j : Nat, j ≤ n ∧ i = .int .i64 j ∧ tk = .int .i64 (k + j) ∧ Hid (Row wr base (.slice (some ⟨g, 0, none⟩) n c) (part k xs j)) ∧ Hid (w.grownBy wr (some g))) (fun _ i _ => n - (intOf i).toNat)
  case atStart => exact ⟨0, by omega, rfl, by simp, by rw [part_zero]; exact HP.out, World.grownBy.refl _ _⟩
  case round =>
    obtain ⟨j, hj, rfl, rfl, HR, HG⟩ := hrel
    by_cases hlt : j < n
    · have hpl := part_len k xs j (by rw [← HX.out]; exact hj)
      obtain ⟨hc, hf⟩ := HR.out.cells
      obtain ⟨old, hc1⟩ : ∃ old, wr.cell? ⟨g, j, none⟩ = some (.int .i64 old) := ⟨_, hc j (by rw [hpl, ← HX.out]; exact hlt)⟩
      have hf1 := hf j
      have H2 : Hid (Row (wr.setCell ⟨g, j, none⟩ (.int .i64 (k + j))) base (.slice (some ⟨g, 0, none⟩) n c) (part k xs (j + 1))) := by
        rw [← part_set k xs j (by rw [← HX.out]; exact hlt)]
        exact HR.out.set _
      clear hc hf hpl HR
      go_wp2
      go_roundw
      case rel => exact ⟨j + 1, by omega, by go_num, by go_num, H2, grown_tr HG.out (grown_set1 _ _ _ _)⟩
      case measure => simp [intOf]; omega
    · obtain rfl : j = n := by omega
      go_wp2
      go_ret
      exact ⟨rfl, by have := HR.out; rw [HX.out, part_all, ← HX.out] at this; exact this, HG.out⟩
end Go.Proofs.Ytcokchfedaoccaa.irows
