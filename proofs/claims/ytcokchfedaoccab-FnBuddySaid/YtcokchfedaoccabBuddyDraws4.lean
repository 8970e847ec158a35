/-
  The draws for BuddyTake, BuddyGive and BuddyNew.
-/
import Derived.Test.YtcokchfedaoccabBuddyDraws3
import Derived.Test.YtcokchfedaoccabBuddyOfW
import Derived.OwnWalk
namespace Go.Proofs.Ytcokchfedaoccab.draws
open Go.RowKit Go.Deep Go.Sort Go.Maps
open Go.Proofs.Ytcokchfedaoccab
open Go.Proofs.Ytcokchfedaoccab.brows
open Go.Proofs.Ytcokchfedaoccab.bspec (Box Res Own illA outV SaysO Ans emb rd_nil own_nil)
open Go.Proofs.Ytcokchfedaoccab.bpool (Kept)
set_option linter.unusedVariables false

theorem Byts.up {w : World} {x : Option Addr} {len B B' : Nat} (h : Byts w x len B) (hB : B ≤ B') : Byts w x len B' :=
  ⟨h.1, fun i hi => by
    obtain ⟨b, off, z, hx, hb, hz, hc⟩ := h.2 i hi
    exact ⟨b, off, z, hx, by omega, hz, hc⟩⟩
theorem rd_src {W W' : World} {v : Value} {xs : List Pr} {B : Nat} {x : Option Addr} {len cap : Nat} (h : Rd W v xs) (hs : IsSrc W B x len cap) (hg : W.grownBy W' (some B)) : Rd W' v xs := by
  obtain ⟨a, c, rfl, h1, h2, h3⟩ := h
  refine ⟨a, c, rfl, h1, h2, fun hn => ?_⟩
  obtain ⟨g, rfl, hgl, hc⟩ := h3 hn
  have hgB : g ≠ B := fun e => by
    subst e
    obtain ⟨_, _, _, hh, _⟩ := hs
    have k := cell_of_row W g 0 _ 90 (0, 0) hh
    have k2 := (hc 0 hn).1
    simp only [Nat.zero_mul] at k2
    rw [k2] at k
    simp at k
  have e := hg.block g hgl (by simp; omega)
  exact ⟨g, rfl, Nat.lt_of_lt_of_le hgl hg.size, fun i hi => ⟨(World.cell?_of_block (a := ⟨g, i * 2, none⟩) e).trans (hc i hi).1, (World.cell?_of_block (a := ⟨g, i * 2 + 1, none⟩) e).trans (hc i hi).2⟩⟩
/-- where a draw with a buddy in its box P stands; the result's box lies at w.heap.size, the source behind it -/
structure Dw (w : World) (P : Nat) (x : Option Addr) (len cap : Nat) (m : Int) (v : Value) (xs : List Pr) (W : World) : Prop where
  src : IsSrc W (w.heap.size + 1) x len cap
  byt : Byts W x len (w.heap.size + 1)
  box : Box W P m v
  zr : Box W w.heap.size 0 (.slice none 0 0)
  rd : Rd W v xs
  bel : Below w.heap.size w W
  hP : w.heap.size + 1 < P
theorem Dw.n {w : World} {P : Nat} {x : Option Addr} {len cap : Nat} {m : Int} {v : Value} {xs : List Pr} {W W' : World} (h : Dw w P x len cap m v xs W) (hs : IsSrc W' (w.heap.size + 1) x len cap) (hg : W.grownBy W' (some (w.heap.size + 1))) : Dw w P x len cap m v xs W' := by
  have hP := h.hP
  exact ⟨hs, h.byt.kept hg, (hg.block P h.box.lt (by simp; omega)).trans h.box, (hg.block _ h.zr.lt (by simp)).trans h.zr, rd_src h.rd h.src hg, h.bel.grown hg h.bel.size (fun k e => by simp at e; omega), hP⟩
theorem Dw.drew {w : World} {P : Nat} {x : Option Addr} {len cap : Nat} {m : Int} {v : Value} {xs : List Pr} {W : World} (h : Dw w P x len cap m v xs W) : Dw w P x len cap m v xs W.drew :=
  ⟨h.src, h.byt, h.box, h.zr, rd_move h.rd (Nat.le_refl _) (fun _ _ _ => rfl), h.bel.drew, h.hP⟩
/-- the result is laid down -/
theorem Dw.fin {w : World} {P : Nat} {x : Option Addr} {len cap : Nat} {m : Int} {v : Value} {xs : List Pr} {W : World} (h : Dw w P x len cap m v xs W) :
    Rd ((W.setCell ⟨w.heap.size, 0, none⟩ (.int .i64 m)).setCell ⟨w.heap.size, 1, none⟩ v) v xs ∧ Below w.heap.size w ((W.setCell ⟨w.heap.size, 0, none⟩ (.int .i64 m)).setCell ⟨w.heap.size, 1, none⟩ v) :=
  ⟨bspec.rd_box2 h.rd h.zr rfl, (h.bel.setCell (by simp) _).setCell (by simp) _⟩
theorem dw_new {w U w1 w2 : World} {x : Option Addr} {len cap : Nat} {m : Int} {v : Value} {xs : List Pr} (hU : U = w.alloc (.cells #[.int .i64 0, .slice none 0 0] 29)) (hy : Byts w x len w.heap.size) (hb1 : Below U.heap.size U w1) (hz1 : w.heap.size + 1 < w1.heap.size) (hrd : Rd w2 v xs) (hs : Sr (w.heap.size + 1) (w.heap.size + 1) x len cap w1 w2) :
    Dw w w2.heap.size x len cap m v xs (w2.alloc (.cells #[.int .i64 m, v] 29)) := by
  have hUs : U.heap.size = w.heap.size + 1 := by rw [hU]; simp
  have hzU : Box U w.heap.size 0 (.slice none 0 0) := by rw [hU]; exact zero_box w
  have hz1' : Box w1 w.heap.size 0 (.slice none 0 0) := (hb1.block _ (by omega)).trans hzU
  have hz2 : Box w2 w.heap.size 0 (.slice none 0 0) := (hs.block hz1'.lt (by omega) (by omega)).trans hz1'
  have hbU : Below w.heap.size w U := by rw [hU]; exact (Below.refl _ _).alloc (Nat.le_refl _) _
  have hw1 : Below w.heap.size w w1 := hbU.trans (hb1.mono (by omega))
  have hb2 : Below w.heap.size w w2 := ⟨hs.kept.os.trans hw1.os, hs.kept.tape.trans hw1.tape, hs.kept.output.trans hw1.output, Nat.le_trans hw1.size hs.size, fun k hk => (hs.block (by have := hw1.size; omega) (by omega) (by omega)).trans (hw1.block k hk)⟩
  have ha : Below w2.heap.size w2 (w2.alloc (.cells #[.int .i64 m, v] 29)) := (Below.refl _ _).alloc (Nat.le_refl _) _
  have hB2 : w.heap.size + 1 < w2.heap.size := Nat.lt_of_lt_of_le hz1 hs.size
  have hb3 : Below w.heap.size w (w2.alloc (.cells #[.int .i64 m, v] 29)) := hb2.trans (ha.mono hb2.size)
  exact ⟨IsSrc.other hs.src (World.grownBy_alloc _ _ none) hB2 (by simp), (hy.below hb3 (Nat.le_refl _)).up (by omega), (MapKept.heap_alloc w2 _).1, (ha.block _ hz2.lt).trans hz2, hrd.below ha, hb3, hB2⟩

/-- what DrawBuddyTake leaves -/
def DTake (w : World) (e : Ending) (w' : World) : Prop := ∃ (m : Int) (v : Value) (xs : List Pr) (o : Int), e = .returned (.tuple #[.agg #[.int .i64 m, v], .int .i64 o]) ∧ -10 ≤ m ∧ m ≤ 10 ∧ xs.length ≤ 40 ∧ -1 ≤ o ∧ o ≤ 7 ∧ Rd w' v xs ∧ Below w.heap.size w w'

set_option maxRecDepth 100000 in
set_option maxHeartbeats 4000000 in
theorem drawBuddyTake (x : Option Addr) (len cap : Nat) (w : World) (hby : Byts w x len w.heap.size) :
    Calls Try.prog 10 #[.slice x len cap] w (DTake w) := by
  have HY : Hid (Byts w x len w.heap.size) := hby
  obtain ⟨U, hU⟩ : ∃ U, U = w.alloc (.cells #[.int .i64 0, .slice none 0 0] 29) := ⟨_, rfl⟩
  have hUs : U.heap.size = w.heap.size + 1 := by rw [hU]; simp
  have hYU : Byts U x len U.heap.size := by rw [hUs, hU]; exact (hby.below ((Below.refl _ _).alloc (Nat.le_refl _) _) (Nat.le_refl _)).up (by omega)
  have HC : Hid _ := source_any x len cap U hYU
  clear hby hYU
  go_enter Try.func10, Try.ntmps10
  go_wp2_with fail
  rw [← hU]
  refine Calls.mono HC.out ?_
  rintro e w1 ⟨rfl, hs1, hb1, hz1⟩
  rw [hUs] at hs1 hz1
  have HU : Hid (U = w.alloc (.cells #[.int .i64 0, .slice none 0 0] 29)) := hU
  have HB1 : Hid (Below U.heap.size U w1) := hb1
  have HUS : Hid (U.heap.size = w.heap.size + 1) := hUs
  have HY1 : Hid (Byts w1 x len (w.heap.size + 1)) := by
    have hbU : Below w.heap.size w U := by rw [hU]; exact (Below.refl _ _).alloc (Nat.le_refl _) _
    exact (HY.out.below (hbU.trans (HB1.out.mono (by rw [hUs]; omega))) (Nat.le_refl _)).up (by omega)
  have HBU : Hid _ := buddy_any (w.heap.size + 1) x len cap w1 hz1 hs1 HY1.out
  simp only [hUs]
  clear hs1 hb1 HC hU hUs
  go_wp2_with fail
  refine Calls.mono HBU.out ?_
  rintro e w2 ⟨m, v, xs, rfl, hm0, hm1, hxl, hrd2, hsr2⟩
  have HDW : Hid (Dw w w2.heap.size x len cap m v xs (w2.alloc (.cells #[.int .i64 m, v] 29))) := dw_new HU.out HY.out HB1.out hz1 hrd2 hsr2
  obtain ⟨av, cv, hv, _⟩ := hrd2.form
  generalize xs.length = LX at hv
  subst hv
  clear hrd2 hsr2 HBU HY1 HB1 HU HY
  go_wp2_with fail
  obtain ⟨V, hV⟩ : ∃ V, V = w2.alloc (.cells #[.int .i64 m, .slice av LX cv] 29) := ⟨_, rfl⟩
  rw [← hV] at HDW
  rw [← hV]
  obtain ⟨P, hP⟩ : ∃ P, P = w2.heap.size := ⟨_, rfl⟩
  rw [← hP] at HDW
  rw [← hP]
  clear hV hP
  have HN : Hid (∀ W, Dw w P x len cap m (.slice av LX cv) xs W → Calls Try.prog 38 #[.pointer (some ⟨w.heap.size + 1, 0, none⟩), .int .i64 8] W (NPost (w.heap.size + 1) x len cap 8 W)) := fun W hW => n_any _ x len cap W 8 hW.src hW.byt (by omega)
  obtain ⟨b0, b1, _, _⟩ := HDW.out.box.cells
  obtain ⟨z0, z1, zf0, zf1⟩ := HDW.out.zr.cells
  have hPR : ¬ P = w.heap.size := by have := HDW.out.hP; omega
  have hRP : ¬ w.heap.size = P := by have := HDW.out.hP; omega
  go_region_with (go_at_call 38; refine Calls.mono (HN.out _ HDW.out.drew) ?_; rintro e w7 ⟨q7, rfl, hq0, hq7, hs7, hg7⟩; have Z : Hid (Dw w P x len cap m (.slice av LX cv) xs w7) := HDW.out.drew.n hs7 hg7; clear hs7 hg7; obtain ⟨b0, b1, _, _⟩ := Z.out.box.cells; obtain ⟨z0, z1, zf0, zf1⟩ := Z.out.zr.cells; have hq8 : q7 ≤ 7 := (by omega); clear hq7)
  all_goals
    have HF : Hid (Rd ((w7.setCell ⟨w.heap.size, 0, none⟩ (.int .i64 m)).setCell ⟨w.heap.size, 1, none⟩ (.slice av LX cv)) (.slice av LX cv) xs ∧ Below w.heap.size w ((w7.setCell ⟨w.heap.size, 0, none⟩ (.int .i64 m)).setCell ⟨w.heap.size, 1, none⟩ (.slice av LX cv))) := Z.out.fin
    go_wp2_with fail
    have hwq : IntKind.i64.wrap (q7 - 1) = q7 - 1 := IntWalk.i64_in _ (by omega)
    exact bodyPost_ret (v := .tuple #[.agg #[.int .i64 m, .slice av LX cv], .int .i64 (q7 - 1)]) (by simp [results, Try.results10, go_sem, z0, z1, hwq]) rfl ⟨m, _, xs, q7 - 1, rfl, hm0, hm1, hxl, by omega, by omega, HF.out.1, HF.out.2⟩

/-- what DrawBuddyGive leaves -/
def DGive (w : World) (e : Ending) (w' : World) : Prop := ∃ (m : Int) (v : Value) (xs : List Pr) (a o : Int), e = .returned (.tuple #[.agg #[.int .i64 m, v], .int .i64 a, .int .i64 o]) ∧ -10 ≤ m ∧ m ≤ 10 ∧ xs.length ≤ 40 ∧ Rd w' v xs ∧ Below w.heap.size w w'
theorem shl_one : ∀ o : Nat, o ≤ 3 → 0 < 2 ^ o ∧ 2 ^ o ≤ 8 := by decide
theorem mul_small {a b : Nat} (ha : a ≤ 3) (hb : b ≤ 1) : a * b ≤ 3 := by
  have : a * b ≤ 3 * 1 := Nat.mul_le_mul ha hb
  omega

set_option maxRecDepth 100000 in
set_option maxHeartbeats 4000000 in
theorem drawBuddyGive (x : Option Addr) (len cap : Nat) (w : World) (hby : Byts w x len w.heap.size) :
    Calls Try.prog 12 #[.slice x len cap] w (DGive w) := by
  have HY : Hid (Byts w x len w.heap.size) := hby
  obtain ⟨U, hU⟩ : ∃ U, U = w.alloc (.cells #[.int .i64 0, .slice none 0 0] 29) := ⟨_, rfl⟩
  have hUs : U.heap.size = w.heap.size + 1 := by rw [hU]; simp
  have hYU : Byts U x len U.heap.size := by rw [hUs, hU]; exact (hby.below ((Below.refl _ _).alloc (Nat.le_refl _) _) (Nat.le_refl _)).up (by omega)
  have HC : Hid _ := source_any x len cap U hYU
  clear hby hYU
  go_enter Try.func12, Try.ntmps12
  go_wp2_with fail
  rw [← hU]
  refine Calls.mono HC.out ?_
  rintro e w1 ⟨rfl, hs1, hb1, hz1⟩
  rw [hUs] at hs1 hz1
  have HU : Hid (U = w.alloc (.cells #[.int .i64 0, .slice none 0 0] 29)) := hU
  have HB1 : Hid (Below U.heap.size U w1) := hb1
  have HUS : Hid (U.heap.size = w.heap.size + 1) := hUs
  have HY1 : Hid (Byts w1 x len (w.heap.size + 1)) := by
    have hbU : Below w.heap.size w U := by rw [hU]; exact (Below.refl _ _).alloc (Nat.le_refl _) _
    exact (HY.out.below (hbU.trans (HB1.out.mono (by rw [hUs]; omega))) (Nat.le_refl _)).up (by omega)
  have HBU : Hid _ := buddy_any (w.heap.size + 1) x len cap w1 hz1 hs1 HY1.out
  simp only [hUs]
  clear hs1 hb1 HC hU hUs
  go_wp2_with fail
  refine Calls.mono HBU.out ?_
  rintro e w2 ⟨m, v, xs, rfl, hm0, hm1, hxl, hrd2, hsr2⟩
  have HDW : Hid (Dw w w2.heap.size x len cap m v xs (w2.alloc (.cells #[.int .i64 m, v] 29))) := dw_new HU.out HY.out HB1.out hz1 hrd2 hsr2
  obtain ⟨av, cv, hv, _⟩ := hrd2.form
  generalize xs.length = LX at hv
  subst hv
  clear hrd2 hsr2 HBU HY1 HB1 HU HY
  go_wp2_with fail
  obtain ⟨V, hV⟩ : ∃ V, V = w2.alloc (.cells #[.int .i64 m, .slice av LX cv] 29) := ⟨_, rfl⟩
  rw [← hV] at HDW
  rw [← hV]
  obtain ⟨P, hP⟩ : ∃ P, P = w2.heap.size := ⟨_, rfl⟩
  rw [← hP] at HDW
  rw [← hP]
  clear hV hP
  have HN : Hid (∀ (most : Int) W, most ≤ 100 → Dw w P x len cap m (.slice av LX cv) xs W → Calls Try.prog 38 #[.pointer (some ⟨w.heap.size + 1, 0, none⟩), .int .i64 most] W (NPost (w.heap.size + 1) x len cap most W)) := fun most W hm hW => n_any _ x len cap W most hW.src hW.byt (by omega)
  have HO : Hid (∀ (most : Int) W, most ≤ 100 → Dw w P x len cap m (.slice av LX cv) xs W → Calls Try.prog 42 #[.pointer (some ⟨w.heap.size + 1, 0, none⟩), .int .i64 most] W (OPost (w.heap.size + 1) x len cap W)) := fun most W hm hW => one_any _ x len cap W most hW.src hW.byt (by omega)
  refine Calls.mono (HN.out 4 _ (by omega) HDW.out) ?_
  rintro e w3 ⟨q1, rfl, hq10, hq1, hs3, hg3⟩
  have HD3 : Hid (Dw w P x len cap m (.slice av LX cv) xs w3) := HDW.out.n hs3 hg3
  have hq13 : q1 ≤ 3 := by omega
  clear hs3 hg3 HDW hq1
  go_wp2_with fail
  refine Calls.mono (HN.out 2 _ (by omega) HD3.out) ?_
  rintro e w4 ⟨q2, rfl, hq20, hq2, hs4, hg4⟩
  have HD4 : Hid (Dw w P x len cap m (.slice av LX cv) xs w4) := HD3.out.n hs4 hg4
  have hq21 : q2 ≤ 1 := by omega
  clear hs4 hg4 HD3 hq2
  obtain ⟨n1, rfl⟩ := Int.eq_ofNat_of_zero_le hq10
  obtain ⟨n2, rfl⟩ := Int.eq_ofNat_of_zero_le hq20
  have hmu : IntKind.i64.wrap ((n1 : Int) * (n2 : Int)) = ((n1 * n2 : Nat) : Int) := by
    have := mul_small (a := n1) (b := n2) (by omega) (by omega)
    rw [IntWalk.i64_in _ (by rw [← Int.natCast_mul]; omega)]; simp
  have hn3 : n1 * n2 ≤ 3 := mul_small (by omega) (by omega)
  generalize n1 * n2 = o at hmu hn3
  go_wp2_with fail
  refine Calls.mono (HN.out 33 _ (by omega) HD4.out) ?_
  rintro e w5 ⟨q5, rfl, hq50, hq5, hs5, hg5⟩
  have HD5 : Hid (Dw w P x len cap m (.slice av LX cv) xs w5) := HD4.out.n hs5 hg5
  have hq53 : q5 ≤ 32 := by omega
  clear hs5 hg5 HD4 hq5
  have hPR : ¬ P = w.heap.size := by have := HD5.out.hP; omega
  have hRP : ¬ w.heap.size = P := by have := HD5.out.hP; omega
  go_wp2_with fail
  refine Calls.mono (HO.out 2 _ (by omega) HD5.out) ?_
  rintro e w6 ⟨t6, rfl, hs6, hg6⟩
  have HD6 : Hid (Dw w P x len cap m (.slice av LX cv) xs w6) := HD5.out.n hs6 hg6
  clear hs6 hg6 HD5
  cases t6 with
  | false =>
    go_wp2_with fail
    refine Calls.mono (HO.out 15 _ (by omega) HD6.out) ?_
    rintro e w7 ⟨t7, rfl, hs7, hg7⟩
    have HD7 : Hid (Dw w P x len cap m (.slice av LX cv) xs w7) := HD6.out.n hs7 hg7
    clear hs7 hg7 HD6
    cases t7 with
    | false =>
      have HF : Hid (Rd ((w7.setCell ⟨w.heap.size, 0, none⟩ (.int .i64 m)).setCell ⟨w.heap.size, 1, none⟩ (.slice av LX cv)) (.slice av LX cv) xs ∧ Below w.heap.size w ((w7.setCell ⟨w.heap.size, 0, none⟩ (.int .i64 m)).setCell ⟨w.heap.size, 1, none⟩ (.slice av LX cv))) := HD7.out.fin
      obtain ⟨b0, b1, _, _⟩ := HD7.out.box.cells
      obtain ⟨z0, z1, zf0, zf1⟩ := HD7.out.zr.cells
      go_wp2_with fail
      exact bodyPost_ret (v := .tuple #[.agg #[.int .i64 m, .slice av LX cv], .int .i64 _, .int .i64 _]) (by simp [results, Try.results12, go_sem, z0, z1]; exact ⟨rfl, rfl⟩) rfl ⟨m, _, xs, _, _, rfl, hm0, hm1, hxl, HF.out.1, HF.out.2⟩
    | true =>
      go_wp2_with fail
      refine Calls.mono (HN.out 8 _ (by omega) HD7.out) ?_
      rintro e w8 ⟨q8, rfl, hq80, hq8, hs8, hg8⟩
      have HD8 : Hid (Dw w P x len cap m (.slice av LX cv) xs w8) := HD7.out.n hs8 hg8
      clear hs8 hg8 HD7
      have HF : Hid (Rd ((w8.setCell ⟨w.heap.size, 0, none⟩ (.int .i64 m)).setCell ⟨w.heap.size, 1, none⟩ (.slice av LX cv)) (.slice av LX cv) xs ∧ Below w.heap.size w ((w8.setCell ⟨w.heap.size, 0, none⟩ (.int .i64 m)).setCell ⟨w.heap.size, 1, none⟩ (.slice av LX cv))) := HD8.out.fin
      obtain ⟨b0, b1, _, _⟩ := HD8.out.box.cells
      obtain ⟨z0, z1, zf0, zf1⟩ := HD8.out.zr.cells
      go_wp2_with fail
      exact bodyPost_ret (v := .tuple #[.agg #[.int .i64 m, .slice av LX cv], .int .i64 _, .int .i64 _]) (by simp [results, Try.results12, go_sem, z0, z1]; exact ⟨rfl, rfl⟩) rfl ⟨m, _, xs, _, _, rfl, hm0, hm1, hxl, HF.out.1, HF.out.2⟩
  | true =>
    have ho4 : o = 0 ∨ o = 1 ∨ o = 2 ∨ o = 3 := by omega
    rcases ho4 with rfl | rfl | rfl | rfl
    all_goals
      go_wp2_with fail
      refine Calls.mono (HO.out 15 _ (by omega) HD6.out) ?_
      rintro e w7 ⟨t7, rfl, hs7, hg7⟩
      have HD7 : Hid (Dw w P x len cap m (.slice av LX cv) xs w7) := HD6.out.n hs7 hg7
      clear hs7 hg7 HD6
      cases t7 with
      | false =>
        have HF : Hid (Rd ((w7.setCell ⟨w.heap.size, 0, none⟩ (.int .i64 m)).setCell ⟨w.heap.size, 1, none⟩ (.slice av LX cv)) (.slice av LX cv) xs ∧ Below w.heap.size w ((w7.setCell ⟨w.heap.size, 0, none⟩ (.int .i64 m)).setCell ⟨w.heap.size, 1, none⟩ (.slice av LX cv))) := HD7.out.fin
        obtain ⟨b0, b1, _, _⟩ := HD7.out.box.cells
        obtain ⟨z0, z1, zf0, zf1⟩ := HD7.out.zr.cells
        go_wp2_with fail
        exact bodyPost_ret (v := .tuple #[.agg #[.int .i64 m, .slice av LX cv], .int .i64 _, .int .i64 _]) (by simp [results, Try.results12, go_sem, z0, z1]; exact ⟨rfl, rfl⟩) rfl ⟨m, _, xs, _, _, rfl, hm0, hm1, hxl, HF.out.1, HF.out.2⟩
      | true =>
        go_wp2_with fail
        refine Calls.mono (HN.out 8 _ (by omega) HD7.out) ?_
        rintro e w8 ⟨q8, rfl, hq80, hq8, hs8, hg8⟩
        have HD8 : Hid (Dw w P x len cap m (.slice av LX cv) xs w8) := HD7.out.n hs8 hg8
        clear hs8 hg8 HD7
        have HF : Hid (Rd ((w8.setCell ⟨w.heap.size, 0, none⟩ (.int .i64 m)).setCell ⟨w.heap.size, 1, none⟩ (.slice av LX cv)) (.slice av LX cv) xs ∧ Below w.heap.size w ((w8.setCell ⟨w.heap.size, 0, none⟩ (.int .i64 m)).setCell ⟨w.heap.size, 1, none⟩ (.slice av LX cv))) := HD8.out.fin
        obtain ⟨b0, b1, _, _⟩ := HD8.out.box.cells
        obtain ⟨z0, z1, zf0, zf1⟩ := HD8.out.zr.cells
        go_wp2_with fail
        exact bodyPost_ret (v := .tuple #[.agg #[.int .i64 m, .slice av LX cv], .int .i64 _, .int .i64 _]) (by simp [results, Try.results12, go_sem, z0, z1]; exact ⟨rfl, rfl⟩) rfl ⟨m, _, xs, _, _, rfl, hm0, hm1, hxl, HF.out.1, HF.out.2⟩

/-- what DrawBuddyNew leaves -/
def DNew (w : World) (e : Ending) (w' : World) : Prop := ∃ o : Int, e = .returned (.int .i64 o) ∧ -1 ≤ o ∧ o ≤ 8 ∧ Below w.heap.size w w'
set_option maxHeartbeats 1000000 in
theorem drawBuddyNew (x : Option Addr) (len cap : Nat) (w : World) (hby : Byts w x len w.heap.size) :
    Calls Try.prog 16 #[.slice x len cap] w (DNew w) := by
  have HC : Hid _ := source_any x len cap w hby
  have HY : Hid (Byts w x len w.heap.size) := hby
  clear hby
  go_enter Try.func16, Try.ntmps16
  go_wp2_with fail
  refine Calls.mono HC.out ?_
  rintro e w1 ⟨rfl, hs1, hb1, hz1⟩
  have HB1 : Hid (Below w.heap.size w w1) := hb1
  have HN : Hid _ := n_any w.heap.size x len cap w1 9 hs1 (HY.out.below hb1 (Nat.le_refl _)) (by omega)
  clear hs1 hb1 HC HY
  go_wp2_with fail
  refine Calls.mono HN.out ?_
  rintro e w2 ⟨q, rfl, hq0, hq, hs2, hg2⟩
  have HB2 : Hid (Below w.heap.size w w2) := HB1.out.grown hg2 (Nat.le_of_lt hz1) (fun k e => by simp at e; omega)
  have hq9 : q ≤ 9 := by omega
  clear hs2 hg2 HN hq
  go_wp2_with fail
  go_ret
  exact ⟨q - 1, rfl, by omega, by omega, HB2.out⟩
end Go.Proofs.Ytcokchfedaoccab.draws
