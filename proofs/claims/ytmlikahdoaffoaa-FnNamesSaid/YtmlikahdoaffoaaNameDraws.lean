/-
  The draws of names: a number of two bytes as a rule, two of them, three for Mix, a stream.
-/
import Derived.Test.YtmlikahdoaffoaaDraws3
import Derived.OwnWalk
namespace Go.Proofs.Ytmlikahdoaffoaa.draws
open Go.RowKit Go.Deep
open Go.Proofs.Ytmlikahdoaffoaa
set_option linter.unusedVariables false

def fiveI (y : Int) : Array Value := #[.int .i64 (-1), .int .i64 0, .int .i64 65535, .int .i64 65536, .int .i64 y]
theorem five_at (y : Int) (hy0 : -9223372036854775808 ≤ y) (hy1 : y ≤ 9223372036854775807) (k : Nat) (hk : k < 5) : ∃ z : Int, -9223372036854775808 ≤ z ∧ z ≤ 9223372036854775807 ∧ (fiveI y)[k]? = some (.int .i64 z) := by
  match k, hk with
  | 0, _ => exact ⟨_, by decide, by decide, rfl⟩
  | 1, _ => exact ⟨_, by decide, by decide, rfl⟩
  | 2, _ => exact ⟨_, by decide, by decide, rfl⟩
  | 3, _ => exact ⟨_, by decide, by decide, rfl⟩
  | 4, _ => exact ⟨y, hy0, hy1, rfl⟩

set_option maxHeartbeats 1000000 in
theorem num3_any (B : Nat) (x : Option Addr) (len cap : Nat) (w : World) (hBl : B < w.heap.size) (h : IsSrc w B x len cap) (hby : Byts w x len B) :
    Calls Try.prog 35 #[.pointer (some ⟨B, 0, none⟩)] w (IPost B x len cap w) := by
  have HC : Hid _ := one_any B x len cap w 15 h hby (by omega)
  have HY : Hid (Byts w x len B) := hby
  clear h hby
  go_enter Try.func35, Try.ntmps35
  go_wp2_with fail
  refine Calls.mono HC.out ?_
  rintro e w1 ⟨t, rfl, hs1, hg1⟩
  have hB1 : B < w1.heap.size := Nat.lt_of_lt_of_le hBl hg1.size
  have HY1 : Hid (Byts w1 x len B) := HY.out.kept hg1
  have HS1 : Hid (IsSrc w1 B x len cap) := hs1
  have HG1 : Hid (w.grownBy w1 (some B)) := hg1
  clear hs1 hg1 HC HY
  cases t
  · go_wp2_with fail
    refine (n_any B x len cap w1 _ HS1.out HY1.out (by omega)).mono ?_
    rintro e w2 ⟨v, rfl, hv0, hv1, hs2, hg2⟩
    have hv2 : v < 256 := by omega
    have HY2 : Hid (Byts w2 x len B) := HY1.out.kept hg2
    have HS2 : Hid (IsSrc w2 B x len cap) := hs2
    have HG2 : Hid (w.grownBy w2 (some B)) := grown_trans HG1.out hg2
    clear hs2 hg2 hv1
    go_wp2_with fail
    refine (n_any B x len cap w2 _ HS2.out HY2.out (by omega)).mono ?_
    rintro e w3 ⟨u, rfl, hu0, hu1, hs3, hg3⟩
    have hu2 : u < 256 := by omega
    have HS3 : Hid (IsSrc w3 B x len cap) := hs3
    have HG3 : Hid (w.grownBy w3 (some B)) := grown_trans HG2.out hg3
    clear hs3 hg3 hu1
    go_wp2
    go_ret
    exact ⟨_, rfl, by omega, by omega, HS3.out, HG3.out⟩
  · go_wp2_with fail
    refine (edge_any B x len cap w1 hB1 HS1.out HY1.out).mono ?_
    rintro e w2 ⟨y, rfl, hy0, hy1, hs2, hg2⟩
    have hB2 : B < w2.heap.size := Nat.lt_of_lt_of_le hB1 hg2.size
    have HG2 : Hid (w.grownBy w2 (some B)) := grown_trans HG1.out hg2
    have HY2 : Hid (Byts w2 x len B) := HY1.out.kept hg2
    have hg3 : w2.grownBy (w2.alloc (.cells (fiveI y) 2)) (some B) := World.grownBy_alloc w2 _ _
    have HN : Hid _ := n_any B x len cap (w2.alloc (.cells (fiveI y) 2)) 5 (IsSrc.other hs2 (World.grownBy_alloc w2 _ none) hB2 (by simp)) (HY2.out.kept hg3) (by omega)
    have HG3 : Hid _ := grown_trans HG2.out hg3
    have hrow : (w2.alloc (.cells (fiveI y) 2)).heap[w2.heap.size]? = some (.cells (fiveI y) 2 (0, 0)) := (MapKept.heap_alloc w2 _).1
    have HR : Hid _ := hrow
    have HYB : Hid (-9223372036854775808 ≤ y ∧ y ≤ 9223372036854775807) := ⟨hy0, hy1⟩
    clear hs2 hg2 hg3 hrow hy0 hy1
    go_wp2_with fail
    refine Calls.mono HN.out ?_
    rintro e w3 ⟨v, rfl, hv0, hv1, hs3, hg3⟩
    obtain ⟨k, rfl⟩ := Int.eq_ofNat_of_zero_le hv0
    have hk : k < 5 := by omega
    obtain ⟨z, hz0, hz1, hz⟩ := five_at y HYB.out.1 HYB.out.2 k hk
    have hc : w3.cell? ⟨w2.heap.size, k, none⟩ = some (.int .i64 z) := by
      rw [cell_of_row w3 w2.heap.size k (fiveI y) 2 (0, 0) ((hg3.block _ (by simp) (by simp; omega)).trans HR.out)]
      exact hz
    have HS3 : Hid (IsSrc w3 B x len cap) := hs3
    have HG4 : Hid (w.grownBy w3 (some B)) := grown_trans HG3.out hg3
    clear hs3 hg3 hv0 hv1 hz HN HG3 HR HYB
    go_wp2
    go_ret
    exact ⟨z, rfl, hz0, hz1, HS3.out, HG4.out⟩

/-- what DrawPermute leaves -/
def DTwo3 (w : World) (e : Ending) (w' : World) : Prop := ∃ u v : Int, e = .returned (.tuple #[.int .i64 u, .int .i64 v]) ∧ Below w.heap.size w w'

set_option maxHeartbeats 1000000 in
theorem drawPermute (x : Option Addr) (len cap : Nat) (w : World) (hby : Byts w x len w.heap.size) :
    Calls Try.prog 21 #[.slice x len cap] w (DTwo3 w) := by
  have HC : Hid _ := source_any x len cap w hby
  have HY : Hid (Byts w x len w.heap.size) := hby
  clear hby
  go_enter Try.func21, Try.ntmps21
  go_wp2_with fail
  refine Calls.mono HC.out ?_
  rintro e w1 ⟨rfl, hs1, hb1, hz1⟩
  have HB1 : Hid (Below w.heap.size w w1) := hb1
  have HY1 : Hid (Byts w1 x len w.heap.size) := HY.out.below hb1 (Nat.le_refl _)
  have HN : Hid _ := num3_any w.heap.size x len cap w1 hz1 hs1 HY1.out
  clear hs1 hb1 HC HY
  go_wp2_with fail
  refine Calls.mono HN.out ?_
  rintro e w2 ⟨a, rfl, _, _, hs2, hg2⟩
  have hz2 : w.heap.size < w2.heap.size := Nat.lt_of_lt_of_le hz1 hg2.size
  have HB2 : Hid (Below w.heap.size w w2) := HB1.out.grown hg2 (Nat.le_of_lt hz1) (fun k e => by simp at e; omega)
  have HN2 : Hid _ := num3_any w.heap.size x len cap w2 hz2 hs2 (HY1.out.kept hg2)
  clear hs2 hg2 HN HB1 HY1
  go_wp2_with fail
  refine Calls.mono HN2.out ?_
  rintro e w3 ⟨b, rfl, _, _, hs3, hg3⟩
  have HB3 : Hid (Below w.heap.size w w3) := HB2.out.grown hg3 (Nat.le_of_lt hz2) (fun k e => by simp at e; omega)
  clear hs3 hg3
  go_wp2
  go_ret2
  exact ⟨_, _, rfl, HB3.out⟩

/-- what DrawMix leaves -/
def DThree (w : World) (e : Ending) (w' : World) : Prop := ∃ k r h : Int, e = .returned (.tuple #[.int .i64 k, .int .i64 r, .int .i64 h]) ∧ Below w.heap.size w w'

set_option maxHeartbeats 1000000 in
theorem drawMix (x : Option Addr) (len cap : Nat) (w : World) (hby : Byts w x len w.heap.size) :
    Calls Try.prog 23 #[.slice x len cap] w (DThree w) := by
  have HC : Hid _ := source_any x len cap w hby
  have HY : Hid (Byts w x len w.heap.size) := hby
  clear hby
  go_enter Try.func23, Try.ntmps23
  go_wp2_with fail
  refine Calls.mono HC.out ?_
  rintro e w1 ⟨rfl, hs1, hb1, hz1⟩
  have HB1 : Hid (Below w.heap.size w w1) := hb1
  have HY1 : Hid (Byts w1 x len w.heap.size) := HY.out.below hb1 (Nat.le_refl _)
  have HN : Hid _ := num3_any w.heap.size x len cap w1 hz1 hs1 HY1.out
  clear hs1 hb1 HC HY
  go_wp2_with fail
  refine Calls.mono HN.out ?_
  rintro e w2 ⟨a, rfl, _, _, hs2, hg2⟩
  have hz2 : w.heap.size < w2.heap.size := Nat.lt_of_lt_of_le hz1 hg2.size
  have HB2 : Hid (Below w.heap.size w w2) := HB1.out.grown hg2 (Nat.le_of_lt hz1) (fun k e => by simp at e; omega)
  have HY2 : Hid (Byts w2 x len w.heap.size) := HY1.out.kept hg2
  have HO : Hid _ := one_any w.heap.size x len cap w2 10 hs2 HY2.out (by omega)
  clear hs2 hg2 HN HB1 HY1
  go_wp2_with fail
  refine Calls.mono HO.out ?_
  rintro e w3 ⟨t, rfl, hs3, hg3⟩
  have hz3 : w.heap.size < w3.heap.size := Nat.lt_of_lt_of_le hz2 hg3.size
  have HB3 : Hid (Below w.heap.size w w3) := HB2.out.grown hg3 (Nat.le_of_lt hz2) (fun k e => by simp at e; omega)
  have HY3 : Hid (Byts w3 x len w.heap.size) := HY2.out.kept hg3
  have HS3 : Hid (IsSrc w3 w.heap.size x len cap) := hs3
  clear hs3 hg3 HO HB2 HY2
  cases t
  all_goals
    go_wp2_with fail
    refine (n_any w.heap.size x len cap w3 _ HS3.out HY3.out (by omega)).mono ?_
    rintro e w4 ⟨v, rfl, hv0, hv1, hs4, hg4⟩
    have hz4 : w.heap.size < w4.heap.size := Nat.lt_of_lt_of_le hz3 hg4.size
    have HB4 : Hid (Below w.heap.size w w4) := HB3.out.grown hg4 (Nat.le_of_lt hz3) (fun k e => by simp at e; omega)
    have HY4 : Hid (Byts w4 x len w.heap.size) := HY3.out.kept hg4
    have HS4 : Hid (IsSrc w4 w.heap.size x len cap) := hs4
    clear hs4 hg4
    go_wp2_with fail
    refine (n_any w.heap.size x len cap w4 _ HS4.out HY4.out (by omega)).mono ?_
    rintro e w5 ⟨u, rfl, hu0, hu1, hs5, hg5⟩
    have HB5 : Hid (Below w.heap.size w w5) := HB4.out.grown hg5 (Nat.le_of_lt hz4) (fun k e => by simp at e; omega)
    clear hs5 hg5
    go_wp2
    go_ret3
    exact ⟨_, _, _, rfl, HB5.out⟩

def fourC : Array Value := #[.int .i64 (-1), .int .i64 999, .int .i64 1000, .int .i64 1001]
theorem fourC_at (k : Nat) (hk : k < 4) : ∃ z : Int, fourC[k]? = some (.int .i64 z) := by
  match k, hk with
  | 0, _ => exact ⟨_, rfl⟩
  | 1, _ => exact ⟨_, rfl⟩
  | 2, _ => exact ⟨_, rfl⟩
  | 3, _ => exact ⟨_, rfl⟩

/-- what l03Stream leaves -/
def STPost (B : Nat) (w : World) (e : Ending) (w' : World) : Prop := ∃ k c : Int, e = .returned (.agg #[.int .i64 k, .int .i64 c]) ∧ w.grownBy w' (some B)

theorem row2 {w : World} {B : Nat} {a b : Value} {T : TypeId} (h : w.heap[B]? = some (.cells #[a, b] T (0, 0))) :
    w.cell? ⟨B, 0, none⟩ = some a ∧ w.cell? ⟨B, 1, none⟩ = some b ∧ w.frozen? ⟨B, 0, none⟩ = false ∧ w.frozen? ⟨B, 1, none⟩ = false := by
  refine ⟨?_, ?_, ?_, ?_⟩
  · rw [cell_of_row w B 0 _ T (0, 0) h]; rfl
  · rw [cell_of_row w B 1 _ T (0, 0) h]; rfl
  · simp [World.frozen?, h]
  · simp [World.frozen?, h]
theorem grown_at {w w' : World} {B k : Nat} {o : Obj} (hg : w.grownBy w' (some B)) (h : w.heap[k]? = some o) (hk : k ≠ B) : w'.heap[k]? = some o :=
  (hg.block k (Array.getElem?_eq_some_iff.1 h).1 (by simp; omega)).trans h

/-- a store into a block that is new -/
theorem grown_new {w w' : World} {B k : Nat} (h : w.grownBy w' (some B)) (hk : w.heap.size ≤ k) (i : Nat) (v : Value) : w.grownBy (w'.setCell ⟨k, i, none⟩ v) (some B) :=
  ⟨h.os, h.tape, h.output, by simp [World.setCell, h.size], fun j hj hn => by rw [Below.heap_setCell _ _ _ _ (show j ≠ k by omega)]; exact h.block j hj hn⟩

theorem set_far {k j : Nat} (h : k ≠ j) (w : World) (i i' : Nat) (v : Value) : (w.setCell ⟨j, i, none⟩ v).cell? ⟨k, i', none⟩ = w.cell? ⟨k, i', none⟩ :=
  World.cell?_setCell_other _ _ _ _ (by intro e; simp only [Addr.mk.injEq] at e; exact h e.1.symm)

set_option maxHeartbeats 1000000 in
theorem stream_any (B : Nat) (x : Option Addr) (len cap : Nat) (w : World) (hBl : B < w.heap.size) (h : IsSrc w B x len cap) (hby : Byts w x len B) :
    Calls Try.prog 36 #[.pointer (some ⟨B, 0, none⟩)] w (STPost B w) := by
  have hg0 : w.grownBy (w.alloc (.cells #[.int .i64 0, .int .i64 0] 29)) (some B) := World.grownBy_alloc w _ _
  have HG0 : Hid _ := hg0
  have HY : Hid (Byts (w.alloc (.cells #[.int .i64 0, .int .i64 0] 29)) x len B) := hby.kept hg0
  have HC : Hid _ := num3_any B x len cap (w.alloc (.cells #[.int .i64 0, .int .i64 0] 29)) (by simp; omega) (IsSrc.other h (World.grownBy_alloc w _ none) hBl (by simp)) HY.out
  have HR : Hid _ := (MapKept.heap_alloc w (.cells #[.int .i64 0, .int .i64 0] 29)).1
  clear h hby hg0
  go_enter Try.func36, Try.ntmps36
  go_wp2_with fail
  refine Calls.mono HC.out ?_
  rintro e w1 ⟨k, rfl, _, _, hs1, hg1⟩
  have HR1 : Hid _ := grown_at hg1 HR.out (by omega)
  have HG1 : Hid (w.grownBy w1 (some B)) := grown_trans HG0.out hg1
  have HY1 : Hid (Byts w1 x len B) := HY.out.kept hg1
  have HN : Hid _ := n_any B x len cap w1 256 hs1 HY1.out (by omega)
  clear HC HR HG0 HY hs1 hg1
  go_wp2_with fail
  refine Calls.mono HN.out ?_
  rintro e w2 ⟨c, rfl, _, _, hs2, hg2⟩
  have HR2 : Hid _ := grown_at hg2 HR1.out (by omega)
  have HG2 : Hid (w.grownBy w2 (some B)) := grown_trans HG1.out hg2
  have hB2 : B < w2.heap.size := Nat.lt_of_lt_of_le hBl HG2.out.size
  have hr2 : w.heap.size < w2.heap.size := (Array.getElem?_eq_some_iff.1 HR2.out).1
  have hg3 : w2.grownBy (w2.alloc (.cells #[.int .i64 k, .int .i64 c] 29)) (some B) := World.grownBy_alloc w2 _ _
  have HY3 : Hid (Byts (w2.alloc (.cells #[.int .i64 k, .int .i64 c] 29)) x len B) := (HY1.out.kept hg2).kept hg3
  have HO : Hid _ := one_any B x len cap (w2.alloc (.cells #[.int .i64 k, .int .i64 c] 29)) 8 (IsSrc.other hs2 (World.grownBy_alloc w2 _ none) hB2 (by simp)) HY3.out (by omega)
  have HR3 : Hid _ := grown_at hg3 HR2.out (by omega)
  have HD3 : Hid _ := (MapKept.heap_alloc w2 (.cells #[.int .i64 k, .int .i64 c] 29)).1
  have HG3 : Hid _ := grown_trans HG2.out hg3
  clear HN HR1 HG1 HY1 HR2 hs2 hg2 hg3
  go_wp2_with fail
  refine Calls.mono HO.out ?_
  rintro e w3 ⟨t, rfl, hs3, hg3⟩
  have HR4 : Hid (w3.heap[w.heap.size]? = some (.cells #[.int .i64 0, .int .i64 0] 29 (0, 0))) := grown_at hg3 HR3.out (by omega)
  have HD4 : Hid (w3.heap[w2.heap.size]? = some (.cells #[.int .i64 k, .int .i64 c] 29 (0, 0))) := grown_at hg3 HD3.out (by omega)
  have HG4 : Hid (w.grownBy w3 (some B)) := grown_trans HG3.out hg3
  have HY4 : Hid (Byts w3 x len B) := HY3.out.kept hg3
  have HS4 : Hid (IsSrc w3 B x len cap) := hs3
  have hB4 : B < w3.heap.size := Nat.lt_of_lt_of_le hBl HG4.out.size
  have hD4 : w2.heap.size < w3.heap.size := (Array.getElem?_eq_some_iff.1 HD4.out).1
  clear HO HR3 HD3 HG3 HY3 hs3 hg3
  cases t
  · obtain ⟨d0, d1, e0, e1⟩ := row2 HD4.out
    obtain ⟨r0, r1, s0, s1⟩ := row2 HR4.out
    go_wp2
    exact bodyPost_ret (v := .agg #[.int .i64 k, .int .i64 c]) (by simp [results, Try.results36, go_sem, r0, r1]) rfl
      ⟨k, c, rfl, grown_new (grown_new HG4.out (Nat.le_refl _) _ _) (Nat.le_refl _) _ _⟩
  · have hg5 : w3.grownBy (w3.alloc (.cells fourC 2)) (some B) := World.grownBy_alloc w3 _ _
    have HN5 : Hid _ := n_any B x len cap (w3.alloc (.cells fourC 2)) 4 (IsSrc.other HS4.out (World.grownBy_alloc w3 _ none) hB4 (by simp)) (HY4.out.kept hg5) (by omega)
    have HF5 : Hid _ := (MapKept.heap_alloc w3 (.cells fourC 2)).1
    have HR5 : Hid _ := grown_at hg5 HR4.out (by omega)
    have HD5 : Hid _ := grown_at hg5 HD4.out (by omega)
    have HG5 : Hid _ := grown_trans HG4.out hg5
    clear hg5 HR4 HD4 HG4 HY4 HS4
    go_wp2_with fail
    refine Calls.mono HN5.out ?_
    rintro e w6 ⟨v, rfl, hv0, hv1, hs6, hg6⟩
    obtain ⟨q, rfl⟩ := Int.eq_ofNat_of_zero_le hv0
    have hq : q < 4 := by omega
    obtain ⟨z, hz⟩ := fourC_at q hq
    have hc : w6.cell? ⟨w3.heap.size, q, none⟩ = some (.int .i64 z) := by
      rw [cell_of_row w6 w3.heap.size q fourC 2 (0, 0) (grown_at hg6 HF5.out (by omega))]
      exact hz
    obtain ⟨d0, d1, e0, e1⟩ := row2 (grown_at hg6 HD5.out (by omega))
    obtain ⟨r0, r1, s0, s1⟩ := row2 (grown_at hg6 HR5.out (by omega))
    have HG6 : Hid (w.grownBy w6 (some B)) := grown_trans HG5.out hg6
    clear hs6 hg6 hv0 hv1 hz HN5 HF5 HR5 HD5 HG5
    go_wp2
    exact bodyPost_ret (v := .agg #[.int .i64 k, .int .i64 z]) (by simp [results, Try.results36, go_sem, set_far (show w.heap.size ≠ w2.heap.size by omega), r0, r1]) rfl
      ⟨k, z, rfl, grown_new (grown_new (grown_new HG6.out (by omega) _ _) (Nat.le_refl _) _ _) (Nat.le_refl _) _ _⟩

/-- what DrawStreamNext leaves -/
def DStream (w : World) (e : Ending) (w' : World) : Prop := ∃ k c : Int, e = .returned (.agg #[.int .i64 k, .int .i64 c]) ∧ Below w.heap.size w w'

set_option maxHeartbeats 1000000 in
theorem drawStreamNext (x : Option Addr) (len cap : Nat) (w : World) (hby : Byts w x len w.heap.size) :
    Calls Try.prog 22 #[.slice x len cap] w (DStream w) := by
  have hb0 : Below w.heap.size w (w.alloc (.cells #[.int .i64 0, .int .i64 0] 29)) := (Below.refl _ _).alloc (Nat.le_refl _) _
  have HB0 : Hid _ := hb0
  have hy0 : Byts (w.alloc (.cells #[.int .i64 0, .int .i64 0] 29)) x len (w.alloc (.cells #[.int .i64 0, .int .i64 0] 29)).heap.size := by
    have h := hby.below hb0 (Nat.le_refl _)
    refine ⟨h.1, fun i hi => ?_⟩
    obtain ⟨b, off, z, hx, hb, hz, hc⟩ := h.2 i hi
    exact ⟨b, off, z, hx, by simp; omega, hz, hc⟩
  have HC : Hid _ := source_any x len cap (w.alloc (.cells #[.int .i64 0, .int .i64 0] 29)) hy0
  have HY : Hid _ := hy0
  have HR : Hid _ := (MapKept.heap_alloc w (.cells #[.int .i64 0, .int .i64 0] 29)).1
  clear hby hb0 hy0
  go_enter Try.func22, Try.ntmps22
  go_wp2_with fail
  refine Calls.mono HC.out ?_
  rintro e w1 ⟨rfl, hs1, hb1, hz1⟩
  have HR1 : Hid (w1.heap[w.heap.size]? = some (.cells #[.int .i64 0, .int .i64 0] 29 (0, 0))) := (hb1.block _ (by simp)).trans HR.out
  have HN : Hid _ := stream_any _ x len cap w1 hz1 hs1 (Byts.below (w := w.alloc (.cells #[.int .i64 0, .int .i64 0] 29)) HY.out hb1 (Nat.le_refl _))
  have HB1 : Hid (Below w.heap.size w w1) := HB0.out.trans (hb1.mono (by simp))
  have hz : (w.alloc (.cells #[.int .i64 0, .int .i64 0] 29)).heap.size = w.heap.size + 1 := by simp
  rw [hz] at HN hz1
  clear hs1 hb1 HC HY HR hz
  go_wp2_with fail
  refine Calls.mono HN.out ?_
  rintro e w2 ⟨k, c, rfl, hg2⟩
  obtain ⟨r0, r1, s0, s1⟩ := row2 (grown_at hg2 HR1.out (by omega))
  have HB2 : Hid (Below w.heap.size w w2) := HB1.out.grown hg2 (by omega) (fun k e => by simp at e; omega)
  clear hg2 HN HR1 HB1
  go_wp2
  exact bodyPost_ret (v := .agg #[.int .i64 k, .int .i64 c]) (by simp [results, Try.results22, go_sem, r0, r1]) rfl
    ⟨k, c, rfl, (HB2.out.setCell (Nat.le_refl _) _).setCell (Nat.le_refl _) _⟩
end Go.Proofs.Ytmlikahdoaffoaa.draws
