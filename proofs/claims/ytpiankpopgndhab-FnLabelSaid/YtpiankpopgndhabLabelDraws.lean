/-
  The draws of labels: a number of 64 bits, two of them, a short text.
-/
import Derived.Test.YtpiankpopgndhabDraws3
import Derived.Test.YtpiankpopgndhabLabelText
namespace Go.Proofs.Ytpiankpopgndhab.draws
open Go.RowKit Go.Deep
open Go.Proofs.Ytpiankpopgndhab
set_option linter.unusedVariables false

def fourI (y : Int) : Array Value := #[.int .i64 (-1), .int .i64 15, .int .i64 16, .int .i64 y]
theorem four_at (y : Int) (hy0 : -9223372036854775808 ≤ y) (hy1 : y ≤ 9223372036854775807) (k : Nat) (hk : k < 4) : ∃ z : Int, -9223372036854775808 ≤ z ∧ z ≤ 9223372036854775807 ∧ (fourI y)[k]? = some (.int .i64 z) := by
  match k, hk with
  | 0, _ => exact ⟨_, by decide, by decide, rfl⟩
  | 1, _ => exact ⟨_, by decide, by decide, rfl⟩
  | 2, _ => exact ⟨_, by decide, by decide, rfl⟩
  | 3, _ => exact ⟨y, hy0, hy1, rfl⟩

set_option maxHeartbeats 1000000 in
theorem label_any (B : Nat) (x : Option Addr) (len cap : Nat) (w : World) (hBl : B < w.heap.size) (h : IsSrc w B x len cap) (hby : Byts w x len B) :
    Calls Try.prog 28 #[.pointer (some ⟨B, 0, none⟩)] w (IPost B x len cap w) := by
  have HC : Hid _ := one_any B x len cap w 12 h hby (by omega)
  have HY : Hid (Byts w x len B) := hby
  clear h hby
  go_enter Try.func28, Try.ntmps28
  go_wp2_with fail
  refine Calls.mono HC.out ?_
  rintro e w1 ⟨t, rfl, hs1, hg1⟩
  have hB1 : B < w1.heap.size := Nat.lt_of_lt_of_le hBl hg1.size
  have HY1 : Hid (Byts w1 x len B) := HY.out.kept hg1
  have HS1 : Hid (IsSrc w1 B x len cap) := hs1
  have HG1 : Hid (w.grownBy w1 (some B)) := hg1
  clear hs1 hg1 HC HY
  cases t
  · go_wp2_with fail
    refine (n_any B x len cap w1 _ HS1.out HY1.out (by omega)).mono ?_
    rintro e w2 ⟨v, rfl, hv0, hv1, hs2, hg2⟩
    have hv2 : v < 16 := by omega
    have HS2 : Hid (IsSrc w2 B x len cap) := hs2
    have HG2 : Hid (w.grownBy w2 (some B)) := grown_trans HG1.out hg2
    clear hs2 hg2 hv1
    go_wp2
    go_ret
    exact ⟨_, rfl, by omega, by omega, HS2.out, HG2.out⟩
  · go_wp2_with fail
    refine (edge_any B x len cap w1 hB1 HS1.out HY1.out).mono ?_
    rintro e w2 ⟨y, rfl, hy0, hy1, hs2, hg2⟩
    have hB2 : B < w2.heap.size := Nat.lt_of_lt_of_le hB1 hg2.size
    have HG2 : Hid (w.grownBy w2 (some B)) := grown_trans HG1.out hg2
    have HY2 : Hid (Byts w2 x len B) := HY1.out.kept hg2
    have hg3 : w2.grownBy (w2.alloc (.cells (fourI y) 2)) (some B) := World.grownBy_alloc w2 _ _
    have HN : Hid _ := n_any B x len cap (w2.alloc (.cells (fourI y) 2)) 4 (IsSrc.other hs2 (World.grownBy_alloc w2 _ none) hB2 (by simp)) (HY2.out.kept hg3) (by omega)
    have HG3 : Hid _ := grown_trans HG2.out hg3
    have hrow : (w2.alloc (.cells (fourI y) 2)).heap[w2.heap.size]? = some (.cells (fourI y) 2 (0, 0)) := (MapKept.heap_alloc w2 _).1
    have HR : Hid _ := hrow
    have HYB : Hid (-9223372036854775808 ≤ y ∧ y ≤ 9223372036854775807) := ⟨hy0, hy1⟩
    clear hs2 hg2 hg3 hrow hy0 hy1
    go_wp2_with fail
    refine Calls.mono HN.out ?_
    rintro e w3 ⟨v, rfl, hv0, hv1, hs3, hg3⟩
    obtain ⟨k, rfl⟩ := Int.eq_ofNat_of_zero_le hv0
    have hk : k < 4 := by omega
    obtain ⟨z, hz0, hz1, hz⟩ := four_at y HYB.out.1 HYB.out.2 k hk
    have hc : w3.cell? ⟨w2.heap.size, k, none⟩ = some (.int .i64 z) := by
      rw [cell_of_row w3 w2.heap.size k (fourI y) 2 (0, 0) ((hg3.block _ (by simp) (by simp; omega)).trans HR.out)]
      exact hz
    have HS3 : Hid (IsSrc w3 B x len cap) := hs3
    have HG4 : Hid (w.grownBy w3 (some B)) := grown_trans HG3.out hg3
    clear hs3 hg3 hv0 hv1 hz HN HG3 HR HYB
    go_wp2
    go_ret
    exact ⟨z, rfl, hz0, hz1, HS3.out, HG4.out⟩

/-- what a draw of a number leaves behind its source -/
def DInt (w : World) (e : Ending) (w' : World) : Prop := ∃ v : Int, e = .returned (.int .i64 v) ∧ -9223372036854775808 ≤ v ∧ v ≤ 9223372036854775807 ∧ Below w.heap.size w w'

theorem drawLabelText (x : Option Addr) (len cap : Nat) (w : World) (hby : Byts w x len w.heap.size) :
    Calls Try.prog 11 #[.slice x len cap] w (DInt w) := by
  have HC : Hid _ := source_any x len cap w hby
  have HY : Hid (Byts w x len w.heap.size) := hby
  clear hby
  go_enter Try.func11, Try.ntmps11
  go_wp2_with fail
  refine Calls.mono HC.out ?_
  rintro e w1 ⟨rfl, hs1, hb1, hz1⟩
  have HB1 : Hid (Below w.heap.size w w1) := hb1
  have HN : Hid _ := label_any w.heap.size x len cap w1 hz1 hs1 (HY.out.below hb1 (Nat.le_refl _))
  clear hs1 hb1 HC HY
  go_wp2_with fail
  refine Calls.mono HN.out ?_
  rintro e w2 ⟨v, rfl, hv0, hv1, hs2, hg2⟩
  have HB2 : Hid (Below w.heap.size w w2) := HB1.out.grown hg2 (Nat.le_of_lt hz1) (fun k e => by simp at e; omega)
  clear hs2 hg2
  go_wp2
  go_ret
  exact ⟨v, rfl, hv0, hv1, HB2.out⟩

/-- what DrawFlows leaves -/
def DTwo (w : World) (e : Ending) (w' : World) : Prop := ∃ u v : Int, e = .returned (.tuple #[.int .i64 u, .int .i64 v]) ∧ (-9223372036854775808 ≤ u ∧ u ≤ 9223372036854775807) ∧ (-9223372036854775808 ≤ v ∧ v ≤ 9223372036854775807) ∧ Below w.heap.size w w'
theorem and_range : ∀ n : Nat, n < 16 → ∀ m : Nat, m < 16 → 0 ≤ bits .and .i64 (n : Int) (m : Int) ∧ bits .and .i64 (n : Int) (m : Int) ≤ 15 := by decide +kernel

set_option maxHeartbeats 1000000 in
theorem drawFlows (x : Option Addr) (len cap : Nat) (w : World) (hby : Byts w x len w.heap.size) :
    Calls Try.prog 10 #[.slice x len cap] w (DTwo w) := by
  have HC : Hid _ := source_any x len cap w hby
  have HY : Hid (Byts w x len w.heap.size) := hby
  clear hby
  go_enter Try.func10, Try.ntmps10
  go_wp2_with fail
  refine Calls.mono HC.out ?_
  rintro e w1 ⟨rfl, hs1, hb1, hz1⟩
  have HB1 : Hid (Below w.heap.size w w1) := hb1
  have HY1 : Hid (Byts w1 x len w.heap.size) := HY.out.below hb1 (Nat.le_refl _)
  have HN : Hid _ := label_any w.heap.size x len cap w1 hz1 hs1 HY1.out
  clear hs1 hb1 HC HY
  go_wp2_with fail
  refine Calls.mono HN.out ?_
  rintro e w2 ⟨a, rfl, ha0, ha1, hs2, hg2⟩
  have HA : Hid (-9223372036854775808 ≤ a ∧ a ≤ 9223372036854775807) := ⟨ha0, ha1⟩
  have hz2 : w.heap.size < w2.heap.size := Nat.lt_of_lt_of_le hz1 hg2.size
  have HB2 : Hid (Below w.heap.size w w2) := HB1.out.grown hg2 (Nat.le_of_lt hz1) (fun k e => by simp at e; omega)
  have HY2 : Hid (Byts w2 x len w.heap.size) := HY1.out.kept hg2
  have HO : Hid _ := one_any w.heap.size x len cap w2 3 hs2 HY2.out (by omega)
  clear hs2 hg2 HN HB1 HY1 ha0 ha1
  go_wp2_with fail
  refine Calls.mono HO.out ?_
  rintro e w3 ⟨t, rfl, hs3, hg3⟩
  have hz3 : w.heap.size < w3.heap.size := Nat.lt_of_lt_of_le hz2 hg3.size
  have HB3 : Hid (Below w.heap.size w w3) := HB2.out.grown hg3 (Nat.le_of_lt hz2) (fun k e => by simp at e; omega)
  have HY3 : Hid (Byts w3 x len w.heap.size) := HY2.out.kept hg3
  have HS3 : Hid (IsSrc w3 w.heap.size x len cap) := hs3
  clear hs3 hg3 HO HB2 HY2
  have cases4 : (t = true ∧ 0 ≤ a ∧ a < 16) ∨ (t = true ∧ 0 ≤ a ∧ 16 ≤ a) ∨ (t = true ∧ a < 0) ∨ t = false := by
    cases t <;> simp; omega
  rcases cases4 with ⟨rfl, h0, h1⟩ | ⟨rfl, h0, h1⟩ | ⟨rfl, h0⟩ | rfl
  · go_wp2_with fail
    refine (n_any w.heap.size x len cap w3 _ HS3.out HY3.out (by omega)).mono ?_
    rintro e w4 ⟨v, rfl, hv0, hv1, hs4, hg4⟩
    have HB4 : Hid (Below w.heap.size w w4) := HB3.out.grown hg4 (Nat.le_of_lt hz3) (fun k e => by simp at e; omega)
    have HR : Hid (0 ≤ bits .and .i64 a v ∧ bits .and .i64 a v ≤ 15) := by
      have := and_range a.toNat (by omega) v.toNat (by omega)
      rw [show ((a.toNat : Nat) : Int) = a by omega, show ((v.toNat : Nat) : Int) = v by omega] at this
      exact this
    clear hs4 hg4
    go_wp2
    go_ret2
    exact ⟨_, _, rfl, ⟨by have := HR.out.1; omega, by have := HR.out.2; omega⟩, HA.out, HB4.out⟩
  all_goals
    go_wp2_with fail
    refine (label_any w.heap.size x len cap w3 hz3 HS3.out HY3.out).mono ?_
    rintro e w4 ⟨b, rfl, hb0, hb1, hs4, hg4⟩
    have HB4 : Hid (Below w.heap.size w w4) := HB3.out.grown hg4 (Nat.le_of_lt hz3) (fun k e => by simp at e; omega)
    have HBR : Hid (-9223372036854775808 ≤ b ∧ b ≤ 9223372036854775807) := ⟨hb0, hb1⟩
    clear hs4 hg4 hb0 hb1
    go_wp2
    go_ret2
    exact ⟨_, _, rfl, HA.out, HBR.out, HB4.out⟩

/-- what pick leaves -/
def PPost (B : Nat) (x : Option Addr) (len cap : Nat) (ss : List ByteArray) (w : World) (e : Ending) (w' : World) : Prop :=
  ∃ t : ByteArray, e = .returned (.string t) ∧ t ∈ ss ∧ IsSrc w' B x len cap ∧ w.grownBy w' (some B)

set_option maxHeartbeats 1000000 in
theorem pick_any (B : Nat) (x : Option Addr) (len cap : Nat) (w : World) (g c : Nat) (ss : List ByteArray) (hrow : w.heap[g]? = some (.cells (ss.map Value.string).toArray 9 (0, 0))) (hgB : g ≠ B) (hn0 : 0 < ss.length) (hn : ss.length ≤ 1000000) (h : IsSrc w B x len cap) (hby : Byts w x len B) :
    Calls Try.prog 32 #[.pointer (some ⟨B, 0, none⟩), .slice (some ⟨g, 0, none⟩) ss.length c] w (PPost B x len cap ss w) := by
  have HN : Hid _ := n_any B x len cap w ss.length h hby (by omega)
  have HR : Hid _ := hrow
  have hgl : g < w.heap.size := (Array.getElem?_eq_some_iff.1 hrow).1
  clear h hby hrow
  go_enter Try.func32, Try.ntmps32
  go_wp2_with fail
  refine Calls.mono HN.out ?_
  rintro e w1 ⟨v, rfl, hv0, hv1, hs1, hg1⟩
  obtain ⟨k, rfl⟩ := Int.eq_ofNat_of_zero_le hv0
  have hk : k < ss.length := by omega
  have hc : w1.cell? ⟨g, k, none⟩ = some (.string ss[k]) := by
    rw [cell_of_row w1 g k (ss.map Value.string).toArray 9 (0, 0) ((hg1.block _ hgl (by simp; omega)).trans HR.out)]
    simp [hk]
  have HM : Hid (ss[k] ∈ ss) := List.getElem_mem hk
  generalize ss[k] = t at hc HM
  have HS1 : Hid (IsSrc w1 B x len cap) := hs1
  have HG1 : Hid (w.grownBy w1 (some B)) := hg1
  clear hs1 hg1 hv0 hv1 HN HR
  go_wp2
  go_ret
  exact ⟨t, rfl, HM.out, HS1.out, HG1.out⟩

def sevenS : List ByteArray := [⟨#[]⟩, ⟨#[98, 97]⟩, ⟨#[97, 97]⟩, ⟨#[101]⟩, ⟨#[45, 97]⟩, ⟨#[97, 98, 99, 100]⟩, ⟨#[45, 45]⟩]
theorem seven_size : ∀ t ∈ sevenS, t.size ≤ 4 := by decide +kernel
/-- what DrawLabelRead leaves -/
def DShort (w : World) (e : Ending) (w' : World) : Prop := ∃ t : ByteArray, e = .returned (.string t) ∧ t.size ≤ 4 ∧ Below w.heap.size w w'
theorem textN_size : ∀ n : Nat, n < 16 → (ltext.textN n).size ≤ 4 := by decide +kernel

set_option maxHeartbeats 1000000 in
theorem drawLabelRead (x : Option Addr) (len cap : Nat) (w : World) (hby : Byts w x len w.heap.size) :
    Calls Try.prog 13 #[.slice x len cap] w (DShort w) := by
  have HC : Hid _ := source_any x len cap w hby
  have HY : Hid (Byts w x len w.heap.size) := hby
  clear hby
  go_enter Try.func13, Try.ntmps13
  go_wp2_with fail
  refine Calls.mono HC.out ?_
  rintro e w1 ⟨rfl, hs1, hb1, hz1⟩
  have HB1 : Hid (Below w.heap.size w w1) := hb1
  have HY1 : Hid (Byts w1 x len w.heap.size) := HY.out.below hb1 (Nat.le_refl _)
  have HN : Hid _ := n_any w.heap.size x len cap w1 16 hs1 HY1.out (by omega)
  clear hs1 hb1 HC HY
  go_wp2_with fail
  refine Calls.mono HN.out ?_
  rintro e w2 ⟨v, rfl, hv0, hv1, hs2, hg2⟩
  obtain ⟨k, rfl⟩ := Int.eq_ofNat_of_zero_le hv0
  have hk : k < 16 := by omega
  have hz2 : w.heap.size < w2.heap.size := Nat.lt_of_lt_of_le hz1 hg2.size
  have HB2 : Hid (Below w.heap.size w w2) := HB1.out.grown hg2 (Nat.le_of_lt hz1) (fun k e => by simp at e; omega)
  have HY2 : Hid (Byts w2 x len w.heap.size) := HY1.out.kept hg2
  have HT : Hid _ := fun W => ltext.spec_some k hk W
  have HZ : Hid _ := textN_size k hk
  generalize ltext.textN k = t at HT HZ
  have HO : Hid _ := one_any w.heap.size x len cap w2 4 hs2 HY2.out (by omega)
  clear hs2 hg2 HN HB1 HY1 hv0 hv1
  go_wp2_with fail
  refine Calls.mono (HT.out _) ?_
  rintro e w3 ⟨rfl, rfl⟩
  go_wp2_with fail
  refine Calls.mono HO.out ?_
  rintro e w4 ⟨b, rfl, hs4, hg4⟩
  have hz4 : w.heap.size < w4.heap.size := Nat.lt_of_lt_of_le hz2 hg4.size
  have HB4 : Hid (Below w.heap.size w w4) := HB2.out.grown hg4 (Nat.le_of_lt hz2) (fun k e => by simp at e; omega)
  have HY4 : Hid (Byts w4 x len w.heap.size) := HY2.out.kept hg4
  have HS4 : Hid (IsSrc w4 w.heap.size x len cap) := hs4
  clear hs4 hg4 HO HB2 HY2 HT
  cases b
  · go_wp2
    go_ret
    exact ⟨t, rfl, HZ.out, HB4.out⟩
  · have hg5 : w4.grownBy (w4.alloc (.cells (sevenS.map Value.string).toArray 9)) (some w.heap.size) := World.grownBy_alloc w4 _ _
    have HP : Hid _ := pick_any w.heap.size x len cap (w4.alloc (.cells (sevenS.map Value.string).toArray 9)) w4.heap.size 7 sevenS (MapKept.heap_alloc w4 _).1 (by omega) (by decide) (by decide) (IsSrc.other HS4.out (World.grownBy_alloc w4 _ none) hz4 (by simp)) (HY4.out.kept hg5)
    have HB5 : Hid _ := HB4.out.alloc (Nat.le_of_lt hz4) (.cells (sevenS.map Value.string).toArray 9)
    clear hg5
    go_wp2_with fail
    refine Calls.mono HP.out ?_
    rintro e w6 ⟨u, rfl, hu, hs6, hg6⟩
    have HU : Hid _ := seven_size u hu
    have HB6 : Hid (Below w.heap.size w w6) := HB5.out.grown hg6 (by simp; omega) (fun k e => by simp at e; omega)
    clear hs6 hg6 hu
    go_wp2
    go_ret
    exact ⟨u, rfl, HU.out, HB6.out⟩
end Go.Proofs.Ytpiankpopgndhab.draws
